package fix

import (
	"fmt"
	"math"
	"math/big"
	"math/rand"
	"reflect"
	"slices"
	"testing"

	"taskmaster/api"
)

const top = int64(api.Top)

// none stands, in a table, for the answer 0, false.
const none = int64(-1)

// wrong are numbers that nothing may be: some of them come back among those that may, if they are cut to fewer digits.
var wrong = []int64{-1, -2, -top, top + 1, top + 2, 2 * top, 1<<32 + 1, 1<<40 + 5, -1<<32 + 1, math.MinInt64, math.MinInt64 + 1, math.MaxInt64, math.MaxInt64 - 1}

// loads are loads, from pairs of T and C.
func loads(l ...int64) []api.Load {
	var out []api.Load
	for i := 0; i < len(l); i += 2 {
		out = append(out, api.Load{T: l[i], C: l[i+1]})
	}
	return out
}

// many is n times the same load.
func many(n int, t, c int64) []api.Load { return slices.Repeat(loads(t, c), n) }

// brief is loads as a text that does not fill the screen.
func brief(l []api.Load) string { return fmt.Sprint(len(l), " loads ", l[:min(len(l), 6)]) }

// wantSum asks for one answer of Sum.
func wantSum(t *testing.T, base int64, l []api.Load, w, n int64) {
	t.Helper()
	if got, ok := Sum(base, l, w); ok != (n != none) || got != max(n, 0) {
		t.Errorf("Sum %d, %s, %d: %d, %t, want %d (-1: none)", base, brief(l), w, got, ok, n)
	}
}

// wantLeast asks for one answer of Least.
func wantLeast(t *testing.T, base int64, l []api.Load, n int64) {
	t.Helper()
	if got, ok := Least(base, l); ok != (n != none) || got != max(n, 0) {
		t.Errorf("Least %d, %s: %d, %t, want %d (-1: none)", base, brief(l), got, ok, n)
	}
}

// wantNothing asks for neither sum nor least of a base and loads of which one may not be.
func wantNothing(t *testing.T, base int64, l []api.Load) {
	t.Helper()
	for _, w := range []int64{0, 1, 7, top} {
		wantSum(t, base, l, w, none)
	}
	wantLeast(t, base, l, none)
}

// told is what the chapter asks of what may be, in whole numbers of any size: how often a load comes is how often T fits into w, and once more for what is left.
func told(base int64, l []api.Load, w int64) int64 {
	all := big.NewInt(base)
	for _, x := range l {
		often, rest := new(big.Int).DivMod(big.NewInt(w), big.NewInt(x.T), new(big.Int))
		if rest.Sign() > 0 {
			often.Add(often, big.NewInt(1))
		}
		all.Add(all, often.Mul(often, big.NewInt(x.C)))
	}
	return all.Int64()
}

// counted is told, one coming after the other.
func counted(base int64, l []api.Load, w int64) int64 {
	for _, x := range l {
		for at := int64(0); at < w; at += x.T {
			base += x.C
		}
	}
	return base
}

// byTicks is Least by a processor that works, tick by tick, at what came, until for the first time nothing is left.
func byTicks(base int64, l []api.Load) int64 {
	left := base
	for now := int64(0); now < top; now++ {
		for _, x := range l {
			if now%x.T == 0 {
				left += x.C
			}
		}
		if left == 0 || left > top-now {
			return none
		}
		if left--; left == 0 {
			return now + 1
		}
	}
	return none
}

// anyLoads are up to n loads with a T of at most far, that ask for about a part of the time.
func anyLoads(r *rand.Rand, n int, far int64, part float64) []api.Load {
	var l []api.Load
	n = r.Intn(n + 1)
	for range n {
		t := 1 + r.Int63n(far)
		c := int64(2 * r.Float64() * part * float64(t) / float64(n))
		l = append(l, api.Load{T: t, C: min(c+r.Int63n(2), top)})
	}
	return l
}

func TestP10_1Example(t *testing.T) {
	l := loads(4, 1)
	wantLeast(t, 3, l, 4)
	for w, n := range []int64{3, 4, 4, 4, 4, 5, 5, 5, 5, 6} {
		wantSum(t, 3, l, int64(w), n)
	}
	for base, n := range []int64{1, 2, 3, 4, 6, 7, 8, 10, 11, 12, 14} {
		wantLeast(t, int64(base), l, n)
	}
}

// What may be of base and w, with no loads, one, and as many as may be.
func TestP10_1BaseAndTime(t *testing.T) {
	for _, x := range []struct {
		l   []api.Load
		sum func(base, w int64) int64
	}{
		{nil, func(base, w int64) int64 { return base }},
		{loads(1, 1), func(base, w int64) int64 { return base + w }},
		{loads(1, 0), func(base, w int64) int64 { return base }},
		{loads(top, 5), func(base, w int64) int64 { return base + min(w, 1)*5 }},
		{many(64, 1, 3), func(base, w int64) int64 { return base + 192*w }},
	} {
		right := []int64{0, 1, 2, top / 2, top - 1, top}
		for _, a := range right {
			for _, b := range right {
				wantSum(t, a, x.l, b, x.sum(a, b))
			}
			for _, b := range wrong {
				wantSum(t, a, x.l, b, none)
				wantSum(t, b, x.l, a, none)
			}
		}
		for _, a := range wrong {
			for _, b := range wrong {
				wantSum(t, a, x.l, b, none)
			}
			wantNothing(t, a, x.l)
		}
	}
}

// Without loads base is all that comes; a nil list and an empty one are the same.
func TestP10_1NoLoads(t *testing.T) {
	for _, l := range [][]api.Load{nil, {}, make([]api.Load, 0, 70), loads(0, -1)[:0]} {
		for _, base := range []int64{1, 2, 3, 999, top / 2, top - 1, top} {
			wantLeast(t, base, l, base)
			for _, w := range []int64{0, 1, base, top} {
				wantSum(t, base, l, w, base)
			}
		}
		wantLeast(t, 0, l, none)
		wantSum(t, 0, l, 0, 0)
		wantSum(t, 0, l, 1, 0)
		wantSum(t, 0, l, top, 0)
	}
}

// From no load to 64 of them each counts; 65 and more are too many, whatever they are.
func TestP10_1HowMany(t *testing.T) {
	for n := range 130 {
		if n > 64 {
			wantNothing(t, 5, many(n, 1000, 1))
			wantNothing(t, 5, many(n, top, 0))
			wantNothing(t, 0, many(n, 1, 1))
			continue
		}
		k := int64(n)
		wantSum(t, 5, many(n, 1000, 1), 0, 5)
		wantSum(t, 5, many(n, 1000, 1), 1, 5+k)
		wantSum(t, 5, many(n, 1000, 1), 1001, 5+2*k)
		wantLeast(t, 5, many(n, 1000, 1), 5+k)
		wantSum(t, 5, many(n, top, 0), 9, 5)
		wantLeast(t, 5, many(n, top, 0), 5)
	}
	for _, n := range []int{128, 256, 257, 1 << 16, 1<<16 + 1, 1 << 20} {
		wantNothing(t, 1, many(n, 1000, 0))
		wantNothing(t, 1, many(n, 0, 0))
	}
}

// Each load counts by its own T and C, in any order, at each place.
func TestP10_1EachPlace(t *testing.T) {
	for n := 1; n <= 64; n++ {
		for at := range n {
			l := many(n, 1000, 0)
			l[at] = api.Load{T: 10, C: 3}
			wantSum(t, 1, l, 21, 10)
			wantLeast(t, 8, l, 14)
		}
	}
	l := loads(4, 1, 10, 3, 7, 2)
	for _, order := range [][]int{{0, 1, 2}, {0, 2, 1}, {1, 0, 2}, {1, 2, 0}, {2, 0, 1}, {2, 1, 0}} {
		x := []api.Load{l[order[0]], l[order[1]], l[order[2]]}
		wantSum(t, 5, x, 13, 19)
		wantLeast(t, 1, x, 18)
	}
}

// What may be of a load's T and C.
func TestP10_1LoadsThatMayBe(t *testing.T) {
	for _, x := range []struct{ t, c, at1, atTop, least int64 }{
		{1, 0, 1, 1, 1}, {1, 1, 2, top + 1, none}, {1, top, top + 1, top*top + 1, none},
		{2, 0, 1, 1, 1}, {2, 1, 2, top/2 + 1, 2}, {2, top, top + 1, top/2*top + 1, none},
		{top - 1, 0, 1, 1, 1}, {top - 1, 1, 2, 3, 2}, {top - 1, top - 2, top - 1, 2*top - 3, top - 1}, {top - 1, top - 1, top, 2*top - 1, none}, {top - 1, top, top + 1, 2*top + 1, none},
		{top, 0, 1, 1, 1}, {top, 1, 2, 2, 2}, {top, top - 1, top, top, top}, {top, top, top + 1, top + 1, none},
	} {
		l := loads(x.t, x.c)
		wantSum(t, 1, l, 0, 1)
		wantSum(t, 1, l, 1, x.at1)
		wantSum(t, 1, l, top, x.atTop)
		wantLeast(t, 1, l, x.least)
	}
	wantLeast(t, 0, loads(top, top), top)
	wantLeast(t, 0, loads(1, 1), 1)
	wantLeast(t, 0, loads(1, 2), none)
}

// spoiled are loads that may not be.
func spoiled() []api.Load {
	l := loads(0, 0, 0, 1, 0, top, 0, -1, -1, -1, top+1, top+1)
	for _, n := range wrong {
		l = append(l, loads(n, 0, n, 1, n, top, n, n, 1, n, 7, n, top, n)...)
	}
	return l
}

// One load that may not be is enough: alone, first, between or last, even where nothing comes of it.
func TestP10_1LoadsThatMayNotBe(t *testing.T) {
	for _, bad := range spoiled() {
		for _, n := range []int{1, 2, 3, 5, 63, 64, 65} {
			for _, at := range []int{0, n / 2, n - 1} {
				l := many(n, 1000, 1)
				l[at] = bad
				wantNothing(t, 3, l)
				wantNothing(t, 0, l)
			}
		}
		wantNothing(t, top, loads(bad.T, bad.C, bad.T, bad.C))
		wantNothing(t, 3, loads(bad.T, bad.C, 1, top))
		wantNothing(t, 3, loads(1, top, bad.T, bad.C))
		wantNothing(t, -1, loads(bad.T, bad.C))
		wantSum(t, 3, loads(4, 1, bad.T, bad.C), -1, none)
	}
	for at := range 64 {
		l := many(64, 1000, 1)
		l[at].T = 0
		wantNothing(t, 3, l)
		l[at] = api.Load{T: 1000, C: -1}
		wantNothing(t, 3, l)
	}
}

// A sum may be beyond num's numbers, but not beyond what there is.
func TestP10_1GreatestSums(t *testing.T) {
	for n := range 65 {
		k := int64(n)
		wantSum(t, top, many(n, 1, top), top, top+k*top*top)
		wantSum(t, 0, many(n, 1, top), top, k*top*top)
		wantSum(t, top, many(n, 1, top-1), top-1, top+k*(top-1)*(top-1))
		wantSum(t, top, many(n, 1, top), 1, top+k*top)
		wantSum(t, top, many(n, top, top), top, top+k*top)
		wantSum(t, top, many(n, 1, top), 0, top)
		if n > 0 {
			wantLeast(t, top, many(n, 1, top), none)
			wantLeast(t, 0, many(n, 1, top), none)
		}
	}
	wantSum(t, top, many(64, 1, top), top, 64000001000000)
	// About the last of num's numbers: 2^40 is 1099511627776.
	for d := int64(-2); d <= 2; d++ {
		wantSum(t, 627776+d, loads(1, top, 1, 99511), top, 1099511627776+d)
		wantSum(t, 627776+d, loads(1, 549755, 1, 549756), top, 1099511627776+d)
	}
}

// A load comes once more just behind each multiple of T, and not at time 0.
func TestP10_1Multiples(t *testing.T) {
	for _, period := range []int64{2, 3, 4, 7, 10, 1000, 4096, 99999, top/3 + 1, top / 2, top - 1, top} {
		l := loads(period, 5)
		wantSum(t, 1, l, 0, 1)
		wantSum(t, 1, l, 1, 6)
		for k := int64(1); k*period <= top; k += 1 + top/period/100 {
			wantSum(t, 1, l, k*period-1, 1+5*k)
			wantSum(t, 1, l, k*period, 1+5*k)
			if k*period < top {
				wantSum(t, 1, l, k*period+1, 1+5*(k+1))
			}
		}
	}
	for w := range int64(100) {
		wantSum(t, 1, loads(1, 5), w, 1+5*w)
	}
	wantSum(t, 0, loads(1, 1), top, top)
	wantSum(t, 0, loads(3, 1), top, 333334)
	wantSum(t, 0, loads(3, 1), top-1, 333333)
	wantSum(t, 0, loads(3, 1), top-2, 333333)
}

// In no time nothing comes but base.
func TestP10_1NoTime(t *testing.T) {
	for _, base := range []int64{0, 1, 7, top} {
		for _, l := range [][]api.Load{nil, loads(1, 1), loads(1, top), loads(top, top), many(64, 1, top)} {
			wantSum(t, base, l, 0, base)
		}
	}
}

// If nothing ever comes, 0 is no answer: the least is sought from 1 on.
func TestP10_1NothingComes(t *testing.T) {
	for _, l := range [][]api.Load{nil, loads(1, 0), loads(4, 0), loads(top, 0), loads(1, 0, 2, 0, top, 0), many(64, 1, 0), many(64, top, 0)} {
		wantLeast(t, 0, l, none)
		wantLeast(t, 1, l, 1)
		wantLeast(t, top, l, top)
		wantSum(t, 0, l, 0, 0)
		wantSum(t, 0, l, top, 0)
	}
	for at := range 64 {
		l := many(64, 1000, 0)
		l[at].C = 1
		wantLeast(t, 0, l, 1)
	}
}

func TestP10_1LeastOne(t *testing.T) {
	wantLeast(t, 1, nil, 1)
	wantLeast(t, 1, loads(1, 0), 1)
	wantLeast(t, 0, loads(1, 1), 1)
	wantLeast(t, 0, loads(2, 1), 1)
	wantLeast(t, 0, loads(top, 1), 1)
	wantLeast(t, 0, loads(5, 0, top, 1, 1, 0), 1)
	wantLeast(t, 0, loads(2, 1, 2, 1), 2)
	wantLeast(t, 1, loads(2, 1), 2)
}

// A least that is just Top, and what is one more.
func TestP10_1LeastTop(t *testing.T) {
	for _, x := range []struct {
		base int64
		l    []api.Load
	}{
		{top, nil}, {top, loads(1, 0)}, {top, many(64, top, 0)},
		{top - 1, loads(top, 1)}, {0, loads(top, top)}, {1, loads(top, top-1)},
		{top / 2, loads(2, 1)}, {top / 4, loads(4, 3)}, {top / 5, loads(5, 4)}, {1000, loads(1000, 999)},
		{top - 64, many(64, top, 1)}, {999000, many(10, top, 100)}, {top - 3, loads(top/2, 1, top, 1)},
		{0, loads(top/2, 1, top, top-2)},
	} {
		wantLeast(t, x.base, x.l, top)
		wantSum(t, x.base, x.l, top, top)
		wantLeast(t, x.base+1, x.l, none)
	}
	wantLeast(t, top-3, loads(top/2-1, 1), top)
	wantLeast(t, top-4, loads(top/2-1, 1), top-2)
	wantLeast(t, top/2-1, loads(2, 1), top-2)
}

// None up to Top, because of a sum past it.
func TestP10_1PastTop(t *testing.T) {
	for _, x := range []struct {
		base int64
		l    []api.Load
	}{
		{top, loads(top, 1)}, {top, loads(5, 1)}, {1, loads(top, top)}, {top - 1, loads(top, 2)},
		{top/2 + 1, loads(2, 1)}, {top/4 + 1, loads(4, 3)}, {1001, loads(1000, 999)},
		{top - 63, many(64, top, 1)}, {0, loads(top, top, top, 1)}, {0, many(64, top, top)},
		{top - 2, loads(top/2, 1, top, 1)}, {top - 3, loads(top/2-1, 1, top, 1)}, {0, loads(top-1, top)},
		// Just one past it the sum would be the time.
		{top - 1, loads(top-1, 1)}, {top - 2, loads(top/2-1, 1)},
	} {
		wantLeast(t, x.base, x.l, none)
	}
}

// None, because the loads ask for as much as there is time, or for more; without a base as much may do.
func TestP10_1NoTimeLeft(t *testing.T) {
	for _, x := range []struct {
		l     []api.Load
		least int64 // with no base
	}{
		{loads(1, 1), 1}, {loads(7, 7), 7}, {loads(1000, 1000), 1000}, {loads(2, 1, 4, 2), 4}, {loads(2, 1, 3, 1, 6, 1), 6},
		{loads(2, 1, 2, 1), 2}, {many(64, 64, 1), 64}, {many(64, 6400, 100), 6400}, {loads(3, 1, 5, 2, 15, 4), 15},
		{loads(1, 2), none}, {loads(3, 4), none}, {loads(2, 1, 3, 2), none}, {many(64, 63, 1), none}, {loads(1, 1, top, 1), none},
	} {
		wantLeast(t, 0, x.l, x.least)
		for _, base := range []int64{1, 2, 100, top} {
			wantLeast(t, base, x.l, none)
		}
	}
}

// A least that comes only after many rounds.
func TestP10_1ManyRounds(t *testing.T) {
	wantLeast(t, 999, loads(1000, 999), 999000)
	wantLeast(t, 500, loads(1000, 999), 500000)
	wantLeast(t, 1000, loads(2, 1, 1000, 499), top)
	for _, x := range []struct {
		base int64
		l    []api.Load
		n    int64
	}{
		{31, loads(2, 1, 21, 10, 1153, 27, 2826, 1), 810558}, {34, loads(2, 1, 45, 22, 2619, 29), 890460},
		{32, loads(2, 1, 11, 5, 454, 10, 214, 5), 504394}, {38, loads(2, 1, 13, 6, 2837, 109), 936208},
	} {
		if n := byTicks(x.base, x.l); n != x.n {
			t.Fatalf("%d, %v is %d tick by tick", x.base, x.l, n)
		}
		wantLeast(t, x.base, x.l, x.n)
	}
}

// Each round may come one further only, for as long as there is time: it ends, too.
func TestW1AllRounds(t *testing.T) {
	l := many(64, 1, 0)
	for _, at := range []int{0, 63} {
		l[at].C = 1
		wantLeast(t, 1, l, none)
		l[at].C = 0
	}
	wantLeast(t, 1, loads(1, 1), none)
	wantLeast(t, top-1, loads(1, 1), none)
}

// All of up to two small loads, counted one coming after the other.
func TestP10_1AllSmall(t *testing.T) {
	ask := func(base int64, l []api.Load) {
		for w := range int64(14) {
			wantSum(t, base, l, w, counted(base, l, w))
		}
		wantLeast(t, base, l, byTicks(base, l))
	}
	for base := range int64(5) {
		for t1 := int64(1); t1 < 6; t1++ {
			for c1 := range t1 {
				ask(base, loads(t1, c1))
				for t2 := int64(1); t2 < 6; t2++ {
					for c2 := range int64(4) {
						ask(base, loads(t1, c1, t2, c2))
					}
				}
			}
		}
	}
}

// Loads made by chance, of all sizes, against the second reading.
func TestP10_1ByChance(t *testing.T) {
	r := rand.New(rand.NewSource(101))
	for range 4000 {
		l := anyLoads(r, 64, []int64{3, 20, 1000, top}[r.Intn(4)], []float64{0.1, 1, 100, 1e7}[r.Intn(4)])
		base, w := r.Int63n(top+1), r.Int63n(top+1)
		wantSum(t, base, l, w, told(base, l, w))
		w = r.Int63n(100)
		wantSum(t, base, l, w, told(base, l, w))
		wantSum(t, base, l, w, counted(base, l, w))
	}
}

func TestP10_1LeastByChance(t *testing.T) {
	r := rand.New(rand.NewSource(102))
	found, lost := 0, 0
	for range 1500 {
		l := anyLoads(r, 6, []int64{10, 200, 10000, top}[r.Intn(4)], []float64{0.3, 0.7, 0.9, 1.1}[r.Intn(4)])
		base := r.Int63n([]int64{2, 50, 3000, top + 1}[r.Intn(4)])
		n := byTicks(base, l)
		if n == none {
			lost++
		} else {
			found++
		}
		wantLeast(t, base, l, n)
	}
	if found < 500 || lost < 200 {
		t.Errorf("%d found, %d not", found, lost)
	}
}

// Each number from 1 up to the least one has another sum, and the least one its own; if there is none, each up to Top.
func TestP10_1EachAhead(t *testing.T) {
	r := rand.New(rand.NewSource(103))
	for k := range 400 {
		l := anyLoads(r, 5, 300, []float64{0.5, 0.8, 0.95, 1.2}[k%4])
		base := r.Int63n(60)
		n, ok := Least(base, l)
		if ok {
			wantSum(t, base, l, n, n)
		} else if n = top + 1; k > 80 {
			n = 3000 // each up to Top a few times only
		}
		for w := int64(1); w < n; w++ {
			if s, is := Sum(base, l, w); !is || s == w {
				t.Fatalf("Sum %d, %v, %d: %d, %t, least %d, %t", base, l, w, s, is, n, ok)
			}
		}
	}
}

// wantNoGreater asks for a least that is at most n, if there is one; and there is one, if anything comes at all.
func wantNoGreater(t *testing.T, base int64, l []api.Load, n int64) {
	t.Helper()
	least, ok := Least(base, l)
	if comes := told(base, l, 1) > 0; ok != comes || least > n {
		t.Errorf("Least %d, %s: %d, %t, with more %d", base, brief(l), least, ok, n)
	}
}

func TestP10_2LessBase(t *testing.T) {
	r := rand.New(rand.NewSource(104))
	for range 600 {
		l := anyLoads(r, 6, []int64{10, 200, 10000}[r.Intn(3)], []float64{0.3, 0.7, 0.9}[r.Intn(3)])
		base := r.Int63n([]int64{3, 60, 3000}[r.Intn(3)])
		n, ok := Least(base, l)
		for less := base - 1; ok && less >= 0; less -= 1 + base/40 {
			wantNoGreater(t, less, l, n)
		}
		if ok {
			wantNoGreater(t, 0, l, n)
		}
	}
	for base := range int64(200) {
		if n, ok := Least(base+1, loads(3, 1, 7, 2)); ok {
			wantNoGreater(t, base, loads(3, 1, 7, 2), n)
		} else {
			t.Error(base, "has none")
		}
	}
}

func TestP10_2FewerLoads(t *testing.T) {
	r := rand.New(rand.NewSource(105))
	for k := range 600 {
		l := anyLoads(r, []int{3, 8, 64}[k%3], []int64{10, 200, 10000}[r.Intn(3)], []float64{0.3, 0.7, 0.9}[r.Intn(3)])
		base := r.Int63n([]int64{3, 60, 3000}[r.Intn(3)])
		n, ok := Least(base, l)
		if !ok {
			continue
		}
		for at := range l {
			wantNoGreater(t, base, slices.Delete(slices.Clone(l), at, at+1), n)
			wantNoGreater(t, base, l[:at], n)
			wantNoGreater(t, base, l[at:], n)
		}
		wantNoGreater(t, base, nil, n)
	}
}

// With less there may be one where with more there is none; and none at all, if nothing comes any more.
func TestP10_2NoneWithMore(t *testing.T) {
	wantLeast(t, 1, loads(1, 1), none)
	wantLeast(t, 0, loads(1, 1), 1)
	wantLeast(t, 1, nil, 1)
	wantLeast(t, 0, nil, none)
	wantLeast(t, 0, loads(5, 2, 1, 1), none)
	wantLeast(t, 0, loads(5, 2), 2)
	wantLeast(t, 0, loads(5, 2, 5, 0), 2)
	wantLeast(t, 0, loads(5, 0), none)
}

// What is handed in is as it was, its spare room too; and that room is no part of the list.
func TestW6HandedIn(t *testing.T) {
	r := rand.New(rand.NewSource(106))
	for k := range 600 {
		l := anyLoads(r, 64, 1000, 0.8)
		if k%4 == 0 {
			l = append(l, spoiled()[k%7])
		}
		whole := append(slices.Clone(l), loads(0, -1, 1, top, 3, 1)...)
		kept := slices.Clone(whole)
		short := whole[:len(l)]
		for _, base := range []int64{-1, 0, 9, top} {
			n, ok := Least(base, l)
			if m, is := Least(base, short); m != n || is != ok {
				t.Errorf("Least %d, %s: %d, %t, with spare room %d, %t", base, brief(l), n, ok, m, is)
			}
			n, ok = Sum(base, l, 500)
			if m, is := Sum(base, short, 500); m != n || is != ok {
				t.Errorf("Sum %d, %s: %d, %t, with spare room %d, %t", base, brief(l), n, ok, m, is)
			}
		}
		if !reflect.DeepEqual(whole, kept) {
			t.Fatalf("%v has changed: %v", kept, whole)
		}
	}
}

// An answer hangs on nothing that was asked ahead of it.
func TestW2AskedAgain(t *testing.T) {
	lists := [][]api.Load{nil, loads(4, 1), loads(1, 1), loads(0, 1), many(64, 1000, 1), many(65, 1000, 1), loads(2, 1, 1000, 499), many(64, 1, top)}
	for _, l := range lists {
		for _, base := range []int64{-1, 0, 1, 300, top} {
			s, isSum := Sum(base, l, 77)
			n, isLeast := Least(base, l)
			for _, other := range lists {
				Sum(5, other, 9)
				Least(3, other)
				m, is := Sum(base, l, 77)
				k, has := Least(base, l)
				if m != s || is != isSum || k != n || has != isLeast {
					t.Errorf("%d, %s: %d, %t and %d, %t, then %d, %t and %d, %t", base, brief(l), s, isSum, n, isLeast, m, is, k, has)
				}
			}
		}
	}
}
