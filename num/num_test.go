package num

import (
	"math"
	"math/big"
	"testing"

	"taskmaster/api"
)

const last = int64(api.Last)

// none stands, in a table, for the answer 0, false.
const none = int64(-1)

type call func(a, b int64) (int64, bool)

type row struct{ a, b, want int64 }

// edges are numbers about every border of the chapter, and of int64.
func edges() []int64 {
	list := []int64{math.MinInt64, math.MinInt64 + 1, math.MaxInt64 - 1, math.MaxInt64}
	middles := []int64{0, 7, 1000, 1 << 20, 1 << 31, 1 << 32, last / 3, last / 2, last,
		2 * last, 1 << 62, -last, -1 << 32, math.MaxInt64 / 3}
	for _, m := range middles {
		for d := int64(-3); d <= 3; d++ {
			list = append(list, m+d)
		}
	}
	return list
}

// mayBe says in whole numbers of any size what a number is that may be.
func mayBe(n *big.Int) bool {
	return n.Sign() >= 0 && n.Cmp(big.NewInt(last)) <= 0
}

func check(t *testing.T, name string, f call, r row) {
	t.Helper()
	n, ok := f(r.a, r.b)
	if ok != (r.want != none) || n != max(r.want, 0) {
		t.Errorf("%s(%d, %d) is %d, %t; want %d (-1: none)", name, r.a, r.b, n, ok, r.want)
	}
}

func checkRows(t *testing.T, name string, f call, rows []row) {
	t.Helper()
	for _, r := range rows {
		check(t, name, f, r)
	}
}

// checkWrong hands in what may not be, on either side and on both.
func checkWrong(t *testing.T, name string, f call) {
	t.Helper()
	for _, bad := range []int64{-1, last + 1, -last, 2 * last, 1 << 62, math.MinInt64, math.MaxInt64} {
		for _, good := range []int64{0, 1, 2, last} {
			check(t, name, f, row{bad, good, none})
			check(t, name, f, row{good, bad, none})
		}
		check(t, name, f, row{bad, bad, none})
		check(t, name, f, row{bad, -bad, none})
	}
}

// checkAgainst holds f against exact, told in whole numbers of any size, at all pairs of edges.
func checkAgainst(t *testing.T, name string, f call, exact func(a, b *big.Int) *big.Int) {
	t.Helper()
	for _, a := range edges() {
		for _, b := range edges() {
			want := none
			x, y := big.NewInt(a), big.NewInt(b)
			if mayBe(x) && mayBe(y) {
				if n := exact(x, y); n != nil && mayBe(n) {
					want = n.Int64()
				}
			}
			check(t, name, f, row{a, b, want})
		}
	}
}

func exactFloor(a, b *big.Int) *big.Int {
	if b.Sign() == 0 {
		return nil
	}
	return new(big.Int).Div(a, b)
}

func exactCeil(a, b *big.Int) *big.Int {
	if b.Sign() == 0 {
		return nil
	}
	n, rest := new(big.Int).DivMod(a, b, new(big.Int))
	if rest.Sign() != 0 {
		n.Add(n, big.NewInt(1))
	}
	return n
}

func TestP1_1Is(t *testing.T) {
	for _, n := range []int64{0, 1, 7, last / 2, last - 1, last} {
		if !Is(n) {
			t.Errorf("%d may be", n)
		}
	}
	for _, n := range []int64{-1, -last, last + 1, 2 * last, math.MinInt64, math.MaxInt64} {
		if Is(n) {
			t.Errorf("%d may not be", n)
		}
	}
	for _, n := range edges() {
		if Is(n) != mayBe(big.NewInt(n)) {
			t.Errorf("Is(%d) is %t", n, Is(n))
		}
	}
}

func TestP1_1Add(t *testing.T) {
	checkRows(t, "Add", Add, []row{
		{7, 3, 10}, {0, 0, 0}, {0, 5, 5}, {5, 0, 5},
		{last, 0, last}, {0, last, last}, {last - 1, 1, last}, {1, last - 1, last},
		{last / 2, last / 2, last},
		{last, 1, none}, {1, last, none}, {last/2 + 1, last / 2, none}, {last, last, none},
		// A sum that may be, of numbers that may not.
		{-1, 1, none}, {-1, 2, none}, {last + 1, -1, none}, {math.MinInt64, math.MinInt64, none},
	})
	checkWrong(t, "Add", Add)
	checkAgainst(t, "Add", Add, func(a, b *big.Int) *big.Int { return new(big.Int).Add(a, b) })
}

func TestP1_1Mul(t *testing.T) {
	checkRows(t, "Mul", Mul, []row{
		{7, 3, 21}, {0, 0, 0}, {0, last, 0}, {last, 0, 0}, {1, last, last}, {last, 1, last},
		{1 << 20, 1 << 20, last}, {last / 2, 2, last}, {2, last / 2, last},
		// Last + 1 is 257 times 4278255361; Last - 1 is 3 times 366503875925.
		{257, 4278255361, none}, {4278255361, 257, none}, {3, 366503875925, last - 1},
		{last/2 + 1, 2, none}, {2, last/2 + 1, none}, {1 << 20, 1<<20 + 1, none}, {last, last, none},
		// Products that wrap round to a number that may be.
		{1 << 32, 1 << 32, none}, {1 << 33, 1 << 31, none}, {last, 1 << 24, none}, {1<<32 + 1, 1 << 32, none},
		// A product that may be, of numbers that may not.
		{-1, -1, none}, {-2, -3, none}, {0, -1, none}, {0, last + 1, none}, {last + 1, 0, none},
	})
	checkWrong(t, "Mul", Mul)
	checkAgainst(t, "Mul", Mul, func(a, b *big.Int) *big.Int { return new(big.Int).Mul(a, b) })
}

func TestP1_1Ceil(t *testing.T) {
	checkRows(t, "Ceil", Ceil, []row{
		{7, 3, 3}, {6, 3, 2}, {8, 3, 3}, {9, 3, 3}, {1, 3, 1}, {0, 5, 0}, {0, last, 0},
		{last, 1, last}, {1, last, 1}, {last, last, 1}, {last - 1, last, 1}, {last, last - 1, 2},
		{last, 2, last / 2}, {last - 1, 2, last / 2}, {last, 3, last/3 + 1},
		{0, 0, none}, {5, 0, none}, {last, 0, none}, {-4, -2, none}, {last + 1, last + 1, none},
	})
	checkWrong(t, "Ceil", Ceil)
	checkAgainst(t, "Ceil", Ceil, exactCeil)
}

func TestP1_1Floor(t *testing.T) {
	checkRows(t, "Floor", Floor, []row{
		{7, 3, 2}, {6, 3, 2}, {8, 3, 2}, {9, 3, 3}, {1, 3, 0}, {0, 5, 0}, {0, last, 0},
		{last, 1, last}, {1, last, 0}, {last, last, 1}, {last - 1, last, 0}, {last, last - 1, 1},
		{last, 2, last / 2}, {last - 1, 2, last/2 - 1}, {last, 3, last / 3},
		{0, 0, none}, {5, 0, none}, {last, 0, none}, {-4, -2, none}, {last + 1, last + 1, none},
		{math.MinInt64, -1, none},
	})
	checkWrong(t, "Floor", Floor)
	checkAgainst(t, "Floor", Floor, exactFloor)
}

// checkRest asks what P1.2 says of a and b, and that just then there is a part.
func checkRest(t *testing.T, a, b int64) {
	t.Helper()
	n, ok := Floor(a, b)
	if ok != (Is(a) && Is(b) && b != 0) {
		t.Errorf("Floor(%d, %d) is %d, %t", a, b, n, ok)
	}
	if !ok {
		return
	}
	whole, fits := Mul(b, n)
	if rest := a - whole; !fits || rest < 0 || rest >= b {
		t.Errorf("%d is not %d times %d and a rest below %d", a, b, n, b)
	}
}

func TestP1_2Rest(t *testing.T) {
	for a := int64(-2); a <= 60; a++ {
		for b := int64(-2); b <= 20; b++ {
			checkRest(t, a, b)
		}
	}
	for _, a := range edges() {
		for _, b := range edges() {
			checkRest(t, a, b)
		}
	}
}
