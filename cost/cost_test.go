package cost

import (
	"math"
	"math/big"
	"slices"
	"testing"

	"taskmaster/api"
)

const (
	last  = int64(api.Last)
	lastF = float64(api.Last)
)

// none stands, in a table, for the answer 0, false.
const none = int64(-1)

// minusZero is 0 with the sign of what is below 0: as a number, it is 0.
func minusZero() float64 { return math.Copysign(0, -1) }

// goodParts are parts that may be, those at the borders among them.
func goodParts() []float64 {
	return []float64{0, 1, 2, 3, 7, 1000, 1 << 20, 1<<20 + 1, 1 << 32, lastF/2 - 1, lastF / 2, lastF/2 + 1,
		lastF - 7, lastF - 1, lastF, minusZero()}
}

// oddParts are parts that may not be; some of them are such as may be again, if rounded or cut to an int64.
func oddParts() []float64 {
	tiny := math.SmallestNonzeroFloat64
	return []float64{
		// No whole numbers.
		tiny, 0.25, 0.5, math.Nextafter(1, 0), math.Nextafter(1, 2), 1.5, 7.75, lastF / 3,
		lastF - 0.5, math.Nextafter(lastF, 0), math.Nextafter(lastF, math.Inf(1)), lastF + 0.5,
		// Below 0.
		-tiny, -0.5, -1, -2, -7, -lastF, -lastF - 1, -1 << 53, -1 << 63, -1 << 64, -1 << 65, -math.MaxFloat64,
		// Too great.
		lastF + 1, lastF + 2, 2 * lastF, 1 << 53, 1<<63 - 1024, 1 << 63, 1 << 64, 1<<64 + 4096, 1e300, math.MaxFloat64,
		// Infinite, or no numbers at all.
		math.Inf(1), math.Inf(-1), math.NaN(), -math.NaN(),
	}
}

func goodCosts() []complex128 {
	var l []complex128
	for _, x := range goodParts() {
		for _, y := range goodParts() {
			l = append(l, complex(x, y))
		}
	}
	return l
}

// oddCosts have a part that may not be on either side, beside one that may, and on both.
func oddCosts() []complex128 {
	var l []complex128
	for _, odd := range oddParts() {
		for _, good := range []float64{0, 1, 3, lastF} {
			l = append(l, complex(odd, good), complex(good, odd))
		}
		l = append(l, complex(odd, odd), complex(odd, -odd), complex(odd, 0.5), complex(math.NaN(), odd))
	}
	return l
}

func costs() []complex128 { return append(goodCosts(), oddCosts()...) }

// edges are whole numbers about every border of the chapter, of float64 and of int64.
func edges() []int64 {
	l := []int64{math.MinInt64, math.MinInt64 + 1, math.MaxInt64 - 1, math.MaxInt64}
	for _, m := range []int64{0, 7, 1000, 1 << 20, 1 << 32, last / 3, last / 2, last, 2 * last,
		1 << 53, 1 << 60, 1 << 62, -last, -1 << 32, -1 << 53, math.MaxInt64 / 3} {
		for d := int64(-3); d <= 3; d++ {
			l = append(l, m+d)
		}
	}
	return l
}

// exact is a float as a fraction of any size; nil, if it is none.
func exact(x float64) *big.Rat { return new(big.Rat).SetFloat64(x) }

// mayBe says in fractions of any size what the chapter says of a part.
func mayBe(x *big.Rat) bool {
	return x != nil && x.IsInt() && x.Sign() >= 0 && x.Cmp(new(big.Rat).SetInt64(last)) <= 0
}

func costMayBe(c complex128) bool { return mayBe(exact(real(c))) && mayBe(exact(imag(c))) }

// rounded is a fraction as a float; the tests ask only for such as are one.
func rounded(x *big.Rat) float64 {
	f, _ := x.Float64()
	return f
}

// exactTotal is both parts together, in fractions of any size, of a cost that may be.
func exactTotal(c complex128) *big.Rat { return new(big.Rat).Add(exact(real(c)), exact(imag(c))) }

// checkCost asks for want, true, or, if good is false, for 0, false.
func checkCost(t *testing.T, what string, c complex128, ok bool, want complex128, good bool) {
	t.Helper()
	if !good {
		want = 0
	}
	if c != want || ok != good {
		t.Errorf("%s is %v, %t; want %v, %t", what, c, ok, want, good)
	}
}

func TestP3_1Of(t *testing.T) {
	for _, r := range []struct {
		work, again int64
		want        complex128
		good        bool
	}{
		{3, 4, 3 + 4i, true}, {4, 3, 4 + 3i, true}, {0, 0, 0, true}, {5, 0, 5, true}, {0, 5, 5i, true},
		{last, 0, complex(lastF, 0), true}, {0, last, complex(0, lastF), true},
		{last, last, complex(lastF, lastF), true}, {last - 1, 1, complex(lastF-1, 1), true},
		{last + 1, 0, 0, false}, {0, last + 1, 0, false}, {last + 1, last + 1, 0, false},
		{-1, 0, 0, false}, {0, -1, 0, false}, {-1, -1, 0, false}, {3, -1, 0, false}, {-1, 3, 0, false},
		{math.MaxInt64, 0, 0, false}, {0, math.MaxInt64, 0, false}, {math.MinInt64, 1, 0, false}, {1, math.MinInt64, 0, false},
	} {
		c, ok := Of(r.work, r.again)
		checkCost(t, "Of", c, ok, r.want, r.good)
	}
	for _, w := range edges() {
		for _, a := range edges() {
			c, ok := Of(w, a)
			good := mayBe(new(big.Rat).SetInt64(w)) && mayBe(new(big.Rat).SetInt64(a))
			checkCost(t, "Of", c, ok, complex(float64(w), float64(a)), good)
			if good && (Work(c) != w || Again(c) != a) {
				t.Errorf("the parts of Of(%d, %d) are %d and %d", w, a, Work(c), Again(c))
			}
		}
	}
}

func TestP3_1WorkAgain(t *testing.T) {
	for _, r := range []struct {
		c           complex128
		work, again int64
	}{
		{3 + 4i, 3, 4}, {0, 0, 0}, {5, 5, 0}, {5i, 0, 5}, {complex(lastF, 0), last, 0}, {complex(0, lastF), 0, last},
		{complex(lastF, lastF-1), last, last - 1},
		// One part that may not be: the other one is not told either.
		{3 + 0.5i, 0, 0}, {0.5 + 3i, 0, 0}, {3 - 1i, 0, 0}, {-1 + 3i, 0, 0},
		{complex(3, lastF+1), 0, 0}, {complex(lastF+1, 3), 0, 0},
		{complex(3, math.Inf(1)), 0, 0}, {complex(math.NaN(), 3), 0, 0}, {complex(3, math.NaN()), 0, 0},
	} {
		if Work(r.c) != r.work || Again(r.c) != r.again {
			t.Errorf("the parts of %v are %d and %d; want %d and %d", r.c, Work(r.c), Again(r.c), r.work, r.again)
		}
	}
	for _, c := range costs() {
		var work, again int64
		if costMayBe(c) {
			work, again = exact(real(c)).Num().Int64(), exact(imag(c)).Num().Int64()
		}
		if Work(c) != work || Again(c) != again {
			t.Errorf("the parts of %v are %d and %d; want %d and %d", c, Work(c), Again(c), work, again)
		}
	}
}

func TestP3_1Sum(t *testing.T) {
	top, load := complex(lastF, 0), complex(0, lastF)
	for _, r := range []struct {
		l    []complex128
		want complex128
		good bool
	}{
		{nil, 0, true}, {[]complex128{}, 0, true}, {[]complex128{0}, 0, true}, {[]complex128{0, 0, 0}, 0, true},
		{[]complex128{3 + 4i}, 3 + 4i, true}, {[]complex128{3 + 4i, 10, 5i}, 13 + 9i, true},
		{[]complex128{3 + 4i, 3 + 4i}, 6 + 8i, true},
		// Just Last, and just above it.
		{[]complex128{top}, top, true}, {[]complex128{load}, load, true}, {[]complex128{top, load}, top + load, true},
		{[]complex128{top - 1, 1}, top, true}, {[]complex128{load - 1i, 1i}, load, true},
		{[]complex128{top / 2, top / 2}, top, true}, {[]complex128{load / 2, load / 2, 7}, load + 7, true},
		{[]complex128{top, 1}, 0, false}, {[]complex128{1, top}, 0, false}, {[]complex128{load, 1i}, 0, false},
		{[]complex128{1i, load}, 0, false}, {[]complex128{top + load, 1i}, 0, false}, {[]complex128{top + load, 1}, 0, false},
		{[]complex128{top/2 + 1, top / 2}, 0, false}, {[]complex128{top - 1, 1, 1}, 0, false}, {[]complex128{top, top}, 0, false},
		{[]complex128{top, 1, 0}, 0, false}, {[]complex128{1, top, 0, 0}, 0, false},
		// A sum that may be, of costs that may not.
		{[]complex128{0.5, 0.5}, 0, false}, {[]complex128{-1, 2}, 0, false}, {[]complex128{2, -1}, 0, false},
		{[]complex128{2i, -1i}, 0, false}, {[]complex128{top + 1, -1}, 0, false}, {[]complex128{top, 1, -1}, 0, false},
		{[]complex128{-1}, 0, false}, {[]complex128{top + 1}, 0, false}, {[]complex128{load + 1i}, 0, false},
	} {
		c, ok := Sum(r.l...)
		checkCost(t, "Sum", c, ok, r.want, r.good)
	}
}

func TestP3_1SumOfTwo(t *testing.T) {
	for _, a := range goodCosts() {
		for _, b := range goodCosts() {
			re := new(big.Rat).Add(exact(real(a)), exact(real(b)))
			im := new(big.Rat).Add(exact(imag(a)), exact(imag(b)))
			c, ok := Sum(a, b)
			checkCost(t, "Sum", c, ok, complex(rounded(re), rounded(im)), mayBe(re) && mayBe(im))
		}
	}
}

func TestP3_1SumOfOdd(t *testing.T) {
	for _, odd := range oddCosts() {
		for _, l := range [][]complex128{{odd}, {odd, 1}, {1, odd}, {0, odd, 0}, {3 + 4i, 5, 2i, odd}, {odd, odd}, {odd, -odd},
			{complex(lastF, lastF), odd}, {odd, complex(lastF, lastF)}} {
			c, ok := Sum(l...)
			checkCost(t, "Sum", c, ok, 0, false)
		}
	}
}

func TestP3_1SumLong(t *testing.T) {
	l := make([]complex128, 1<<20, 1<<20+1)
	for i := range l {
		l[i] = complex(1<<20, 1)
	}
	c, ok := Sum(l...)
	checkCost(t, "Sum", c, ok, complex(lastF, 1<<20), true)
	c, ok = Sum(append(l, 1)...)
	checkCost(t, "Sum", c, ok, 0, false)
	for i := range l {
		l[i] = complex(1, 1<<20)
	}
	c, ok = Sum(l...)
	checkCost(t, "Sum", c, ok, complex(1<<20, lastF), true)
	c, ok = Sum(append(l, 1i)...)
	checkCost(t, "Sum", c, ok, 0, false)
	for i := range l {
		l[i] = complex(lastF, lastF)
	}
	c, ok = Sum(l...)
	checkCost(t, "Sum", c, ok, 0, false)
}

// Sum neither changes nor keeps what it is given, not even the room behind its end (W6).
func TestP3_1SumLeavesItsArguments(t *testing.T) {
	l := []complex128{3 + 4i, 10, 5i, 77, 78i}
	was := slices.Clone(l)
	c, ok := Sum(l[:3]...)
	if !slices.Equal(l, was) {
		t.Errorf("%v has become %v", was, l)
	}
	clear(l)
	checkCost(t, "Sum", c, ok, 13+9i, true)
	c, ok = Sum(was[:3]...)
	checkCost(t, "Sum", c, ok, 13+9i, true)
}

func TestP3_1Times(t *testing.T) {
	top, load := complex(lastF, 0), complex(0, lastF)
	for _, r := range []struct {
		c    complex128
		n    int64
		want complex128
		good bool
	}{
		{3 + 4i, 5, 15 + 20i, true}, {3 + 4i, 1, 3 + 4i, true}, {3, 5, 15, true}, {4i, 5, 20i, true},
		{3 + 4i, 0, 0, true}, {0, 0, 0, true}, {top + load, 0, 0, true}, {top + load, 1, top + load, true},
		{3 + 4i, -1, 0, false}, {0, -1, 0, false}, {top, -1, 0, false}, {0, math.MinInt64, 0, false}, {1, math.MinInt64, 0, false},
		// n has no upper border: of 0 there is never too much.
		{0, last + 1, 0, true}, {0, 1 << 60, 0, true}, {0, math.MaxInt64, 0, true},
		// Just Last, and just above it: Last + 1 is 257 times 4278255361.
		{1, last, top, true}, {1i, last, load, true}, {1 + 1i, last, top + load, true}, {1 << 20, 1 << 20, top, true},
		{top / 2, 2, top, true}, {load / 2, 2, load, true}, {3 + 366503875925i, 3, 9 + (load - 1i), true},
		{1, last + 1, 0, false}, {1i, last + 1, 0, false}, {257, 4278255361, 0, false}, {4278255361i, 257, 0, false},
		{top/2 + 1, 2, 0, false}, {load/2 + 1i, 2, 0, false}, {top, 2, 0, false}, {top + 1i, 2, 0, false}, {1 + load, 2, 0, false},
		{top + load, last, 0, false}, {top + load, math.MaxInt64, 0, false},
		// Products that wrap round to a number that may be.
		{1 << 32, 1 << 32, 0, false}, {2, 1 << 62, 0, false}, {4, 1 << 62, 0, false}, {4i, 1 << 62, 0, false}, {top, 1 << 24, 0, false},
		// A product that may be, of what may not.
		{0.5, 2, 0, false}, {0.5i, 2, 0, false}, {0.5, 0, 0, false}, {-1, -1, 0, false}, {-3i, -2, 0, false}, {-1, 0, 0, false},
		{top + 1, 0, 0, false}, {load + 1i, 0, 0, false},
	} {
		c, ok := Times(r.c, r.n)
		checkCost(t, "Times", c, ok, r.want, r.good)
	}
}

func TestP3_1TimesEdges(t *testing.T) {
	for _, a := range goodCosts() {
		for _, n := range edges() {
			by := new(big.Rat).SetInt64(n)
			re, im := new(big.Rat).Mul(exact(real(a)), by), new(big.Rat).Mul(exact(imag(a)), by)
			c, ok := Times(a, n)
			checkCost(t, "Times", c, ok, complex(rounded(re), rounded(im)), n >= 0 && mayBe(re) && mayBe(im))
		}
	}
	for _, odd := range oddCosts() {
		for _, n := range []int64{math.MinInt64, -2, -1, 0, 1, 2, 4, last, math.MaxInt64} {
			c, ok := Times(odd, n)
			checkCost(t, "Times", c, ok, 0, false)
		}
	}
}

// Times is as many of them together.
func TestP3_1TimesIsSum(t *testing.T) {
	for _, a := range costs() {
		l := []complex128{a}
		for n := int64(1); n <= 5; n++ {
			want, good := Sum(l...)
			c, ok := Times(a, n)
			checkCost(t, "Times", c, ok, want, good)
			l = append(l, a)
		}
	}
}

func TestP3_1Total(t *testing.T) {
	top, load := complex(lastF, 0), complex(0, lastF)
	for _, r := range []struct {
		c    complex128
		want int64
	}{
		{3 + 4i, 7}, {0, 0}, {7, 7}, {7i, 7},
		{top, last}, {load, last}, {top/2 + load/2, last}, {top - 1 + 1i, last}, {1 + load - 1i, last}, {top - 1, last - 1},
		{top + 1i, none}, {1 + load, none}, {top/2 + 1 + load/2, none}, {top/2 + load/2 + 1i, none}, {top + load, none},
		{top + 1, none}, {load + 1i, none}, {-1, none}, {-1i, none},
		// Both parts together may be, but not each of them.
		{0.5 + 0.5i, none}, {-1 + 2i, none}, {2 - 1i, none}, {top + 1 - 1i, none}, {complex(math.Inf(1), math.Inf(-1)), none},
	} {
		if n, ok := Total(r.c); n != max(r.want, 0) || ok != (r.want != none) {
			t.Errorf("Total(%v) is %d, %t; want %d (-1: none)", r.c, n, ok, r.want)
		}
	}
	for _, c := range costs() {
		want := none
		if costMayBe(c) && mayBe(exactTotal(c)) {
			want = exactTotal(c).Num().Int64()
		}
		if n, ok := Total(c); n != max(want, 0) || ok != (want != none) {
			t.Errorf("Total(%v) is %d, %t; want %d (-1: none)", c, n, ok, want)
		}
	}
}

func checkMore(t *testing.T, a, b, want complex128) {
	t.Helper()
	if c := More(a, b); c != want {
		t.Errorf("More(%v, %v) is %v; want %v", a, b, c, want)
	}
}

func TestP3_1More(t *testing.T) {
	top, load := complex(lastF, 0), complex(0, lastF)
	for _, r := range [][3]complex128{
		{3 + 4i, 8, 8}, {8, 3 + 4i, 8}, {3 + 4i, 8i, 8i}, {2, 1, 2}, {1, 2, 2}, {0, 1i, 1i}, {1i, 0, 1i}, {0, 0, 0},
		// Alike: the first one.
		{3 + 4i, 7, 3 + 4i}, {7, 3 + 4i, 7}, {3 + 4i, 4 + 3i, 3 + 4i}, {4 + 3i, 3 + 4i, 4 + 3i}, {top, load, top}, {load, top, load},
		// A total above Last is more, or less, all the same.
		{top + 5i, top + 6i, top + 6i}, {top + 6i, top + 5i, top + 6i}, {top, top + 1i, top + 1i}, {top + 1i, top, top + 1i},
		{top + 1i, 1 + load, top + 1i}, {1 + load, top + 1i, 1 + load}, {top + load, top + load - 1i, top + load},
		{top + load - 1, top + load, top + load}, {3, top + load, top + load}, {top + load, 3, top + load},
		// One of them, or both, may not be.
		{-1, 2, 2}, {2, -1, 2}, {-1, 0, 0}, {0, -1, 0}, {-1, -2, 0}, {0.5, 0.25, 0}, {9.5, 2, 2}, {2, 9.5i, 2},
		{top + 1, 2i, 2i}, {2i, load + 1i, 2i}, {top + 1, load + 1i, 0},
	} {
		checkMore(t, r[0], r[1], r[2])
	}
}

func TestP3_1MoreOfTwo(t *testing.T) {
	for _, a := range goodCosts() {
		for _, b := range goodCosts() {
			want := a
			if exactTotal(b).Cmp(exactTotal(a)) > 0 {
				want = b
			}
			checkMore(t, a, b, want)
		}
	}
	for _, odd := range oddCosts() {
		for _, good := range []complex128{0, 1, 1i, 3 + 4i, complex(lastF, lastF)} {
			checkMore(t, odd, good, good)
			checkMore(t, good, odd, good)
		}
		for _, other := range []complex128{0.5, -1i, complex(lastF+1, 0), complex(math.NaN(), 0), complex(1, math.Inf(1)), odd} {
			checkMore(t, odd, other, 0)
			checkMore(t, other, odd, 0)
		}
	}
}

// Zero with a minus sign is the number 0, so that it may be, on either side.
func TestP3_1MinusZero(t *testing.T) {
	for _, c := range []complex128{complex(minusZero(), 5), complex(5, minusZero()), complex(minusZero(), minusZero())} {
		want := complex(math.Abs(real(c)), math.Abs(imag(c)))
		s, sok := Sum(c)
		checkCost(t, "Sum", s, sok, want, true)
		m, mok := Times(c, 2)
		checkCost(t, "Times", m, mok, want*2, true)
		if n, ok := Total(c); n != Work(want)+Again(want) || !ok {
			t.Errorf("Total(%v) is %d, %t", c, n, ok)
		}
		checkMore(t, c, 0.5, want)
		checkMore(t, 0.5, c, want)
		for _, x := range []float64{real(s), imag(s), real(m), imag(m)} {
			if math.Signbit(x) {
				t.Errorf("%v or %v has a minus sign", s, m)
			}
		}
	}
}

// orders hands every order of l to f, by swapping.
func orders(l []complex128, n int, f func()) {
	if n <= 1 {
		f()
		return
	}
	for i := range n {
		l[i], l[n-1] = l[n-1], l[i]
		orders(l, n-1, f)
		l[i], l[n-1] = l[n-1], l[i]
	}
}

func TestP3_2Order(t *testing.T) {
	top, load := complex(lastF, 0), complex(0, lastF)
	for _, r := range []struct {
		l    []complex128
		want complex128
		good bool
	}{
		{[]complex128{3 + 4i, 10, 5i, 1, 2 + 2i, 0}, 16 + 11i, true},
		{[]complex128{top/2 - 1, top / 2, 1, 0, 3i, load - 3i}, top + load, true},
		{[]complex128{top / 2, top / 2, 1, 0, 3i, 7i}, 0, false},
		{[]complex128{load / 2, load / 2, 1i, 0, 3, 7}, 0, false},
		{[]complex128{top, load, top, load, 1, 1i}, 0, false},
		{[]complex128{top, 1, -1, 0, 2, 5i}, 0, false},
		{[]complex128{0.5, 0.5, 1, 2, 3i}, 0, false},
		{[]complex128{top + 1, -1, 2, 0, 3i}, 0, false},
		{[]complex128{1, complex(math.NaN(), 0), 2, top, 1i}, 0, false},
		{[]complex128{1, complex(0, math.Inf(1)), complex(0, math.Inf(-1)), 2, load}, 0, false},
		{[]complex128{1e300, -1e300, 1, 2i, 3}, 0, false},
	} {
		orders(r.l, len(r.l), func() {
			c, ok := Sum(r.l...)
			checkCost(t, "Sum", c, ok, r.want, r.good)
		})
	}
}

// A long list falling, rising, and in orders between them, at the border of what may be.
func TestP3_2OrderLong(t *testing.T) {
	var l []complex128
	rest := last
	for i := int64(1); i < 2000; i++ {
		l = append(l, complex(float64(i*i), float64(2000-i)))
		rest -= i * i
	}
	l = append(l, complex(float64(rest), 0))
	for _, more := range []complex128{0, 1} {
		m := append(slices.Clone(l), more)
		for step := range 40 {
			c, ok := Sum(m...)
			checkCost(t, "Sum", c, ok, complex(lastF, 1999000), more == 0)
			for i := range m {
				k := (i*(2*step+1)*7919 + step) % len(m)
				m[i], m[k] = m[k], m[i]
			}
			if step%2 == 1 {
				slices.Reverse(m)
			}
		}
	}
}
