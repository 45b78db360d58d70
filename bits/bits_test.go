package bits

import (
	"math"
	"slices"
	"testing"

	"taskmaster/api"
)

const full = uint64(math.MaxUint64)

// numbers are all that may be in a set, rising.
func numbers() []int {
	var l []int
	for i := range api.Sets {
		l = append(l, i)
	}
	return l
}

// others are numbers that may be in no set; some of them are such a number again, if cut to fewer digits.
func others() []int {
	return []int{-1, -2, -63, -64, -65, api.Sets, api.Sets + 1, 2 * api.Sets, 127, 128, 255, 256, 259,
		1 << 16, 1<<31 - 1, 1 << 31, 1 << 32, 1<<32 + 3, 1 << 40, -1 << 31, -1 << 32, -1<<32 + 3,
		math.MinInt, math.MinInt + 1, math.MinInt + 3, math.MaxInt - 1, math.MaxInt}
}

// powers tells, by doubling alone, the number whose only digit is digit i, for each i.
func powers() [api.Sets]uint64 {
	var p [api.Sets]uint64
	one := uint64(1)
	for i := range p {
		p[i] = one
		one += one
	}
	return p
}

// digits are the places of x's binary digits that are 1, rising, found by halving.
func digits(x uint64) []int {
	var l []int
	for i := 0; x != 0; i++ {
		if x%2 == 1 {
			l = append(l, i)
		}
		x /= 2
	}
	return l
}

// sets are the empty and the full set, all of one and of two numbers, all that lack just one,
// all runs from either end, and some that follow no order.
func sets() []uint64 {
	l := []uint64{0, full, 9, 0x5555555555555555, 0xaaaaaaaaaaaaaaaa, 0x123456789abcdef, 0x8000000080000001}
	p := powers()
	for i := range p {
		l = append(l, p[i], full-p[i], p[i]-1, full-p[i]+1)
		for k := range i {
			l = append(l, p[i]+p[k])
		}
	}
	x := uint64(88172645463325252)
	for range 500 {
		x ^= x << 13
		x ^= x >> 7
		x ^= x << 17
		l = append(l, x)
	}
	return l
}

func checkOf(t *testing.T, want uint64, l ...int) {
	t.Helper()
	if x := Of(l...); x != want {
		t.Errorf("Of(%v) is %#x; want %#x", l, x, want)
	}
}

func TestP2_1Of(t *testing.T) {
	checkOf(t, 9, 0, 3)
	checkOf(t, 9, 3, 0)
	checkOf(t, 9, 3, 0, 3, 0, 0)
	checkOf(t, 0)
	checkOf(t, 0, []int{}...)
	checkOf(t, 1, 0)
	checkOf(t, 1<<63, 63)
	checkOf(t, 3<<62+2, 63, 62, 1)
	checkOf(t, full, numbers()...)
	for i, p := range powers() {
		checkOf(t, p, i)
		checkOf(t, p, i, i)
	}
}

func TestP2_1OfLeavesOutOthers(t *testing.T) {
	checkOf(t, 0, others()...)
	for _, i := range others() {
		checkOf(t, 0, i)
		checkOf(t, 9, i, 0, 3)
		checkOf(t, 9, 0, i, 3)
		checkOf(t, 9, 0, 3, i)
	}
	checkOf(t, full, append(others(), numbers()...)...)
	checkOf(t, full, append(numbers(), others()...)...)
}

func TestP2_1OfLong(t *testing.T) {
	l := make([]int, 1<<20)
	for i := range l {
		l[i] = i - 1<<19
	}
	checkOf(t, full, l...)
	checkOf(t, 0, l[:1<<19]...)
	checkOf(t, 1, l[:1<<19+1]...)
	checkOf(t, 0, l[1<<19+api.Sets:]...)
}

func TestP2_1List(t *testing.T) {
	for _, r := range []struct {
		x    uint64
		want []int
	}{
		{0, nil}, {1, []int{0}}, {9, []int{0, 3}}, {1 << 63, []int{63}}, {3<<62 + 2, []int{1, 62, 63}},
		{full, numbers()}, {full - 1, numbers()[1:]}, {full >> 1, numbers()[:63]},
	} {
		if l := List(r.x); !slices.Equal(l, r.want) {
			t.Errorf("List(%#x) is %v; want %v", r.x, l, r.want)
		}
	}
	for _, x := range sets() {
		if l := List(x); !slices.Equal(l, digits(x)) {
			t.Errorf("List(%#x) is %v; want %v", x, l, digits(x))
		}
	}
}

func TestP2_1Count(t *testing.T) {
	for _, r := range []struct {
		x    uint64
		want int
	}{{0, 0}, {1, 1}, {9, 2}, {1 << 63, 1}, {3<<62 + 2, 3}, {full, api.Sets}, {full - 1, 63}, {full >> 1, 63}} {
		if n := Count(r.x); n != r.want {
			t.Errorf("Count(%#x) is %d; want %d", r.x, n, r.want)
		}
	}
	for _, x := range sets() {
		if n := Count(x); n != len(digits(x)) {
			t.Errorf("Count(%#x) is %d; want %d", x, n, len(digits(x)))
		}
	}
}

func TestP2_1Has(t *testing.T) {
	for i := range api.Sets {
		if Has(0, i) {
			t.Errorf("the empty set has %d", i)
		}
		if !Has(full, i) {
			t.Errorf("the full set has not %d", i)
		}
	}
	for _, x := range sets() {
		in := digits(x)
		for i := range api.Sets {
			if Has(x, i) != slices.Contains(in, i) {
				t.Errorf("Has(%#x, %d) is %t", x, i, Has(x, i))
			}
		}
	}
}

func TestP2_1HasNoOthers(t *testing.T) {
	for _, x := range sets() {
		for _, i := range others() {
			if Has(x, i) {
				t.Errorf("%#x has %d", x, i)
			}
		}
	}
}

func TestP2_1Least(t *testing.T) {
	for _, r := range []struct {
		x    uint64
		want int
	}{{1, 0}, {9, 0}, {8, 3}, {1 << 63, 63}, {3<<62 + 2, 1}, {full, 0}, {full - 1, 1}} {
		if i, ok := Least(r.x); i != r.want || !ok {
			t.Errorf("Least(%#x) is %d, %t; want %d", r.x, i, ok, r.want)
		}
	}
	if i, ok := Least(0); i != 0 || ok {
		t.Errorf("Least of the empty set is %d, %t", i, ok)
	}
	for _, x := range sets() {
		in := digits(x)
		if i, ok := Least(x); ok != (len(in) > 0) || ok && i != in[0] || !ok && i != 0 {
			t.Errorf("Least(%#x) is %d, %t", x, i, ok)
		}
	}
}

func TestP2_2OfList(t *testing.T) {
	for _, x := range sets() {
		checkOf(t, x, List(x)...)
	}
}

// Of neither changes nor keeps what it is given, not even the room behind its end (W6).
func TestP2_1OfLeavesItsArguments(t *testing.T) {
	l := append(others(), 3, 0, 3, 63, 7, 5)
	was := slices.Clone(l)
	x := Of(l[:len(l)-2]...)
	if !slices.Equal(l, was) {
		t.Errorf("%v has become %v", was, l)
	}
	clear(l)
	if want := uint64(1<<63 + 9); x != want || Of(was[:len(was)-2]...) != want {
		t.Errorf("a set of %v is %#x", was[:len(was)-2], x)
	}
}

// Each answer of List is memory of its own, spare room too (W6, W7).
func TestP2_1ListIsNew(t *testing.T) {
	for _, x := range []uint64{0, 9, 1 << 63, full} {
		a, b := List(x), List(x)
		spare := append(b, 77)
		for i := range a[:cap(a)] {
			a[:cap(a)][i] = -5
		}
		if !slices.Equal(b, digits(x)) || spare[len(b)] != 77 || !slices.Equal(List(x), digits(x)) {
			t.Errorf("two lists of %#x share memory", x)
		}
	}
}
