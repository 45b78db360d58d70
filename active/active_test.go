package active

import (
	"fmt"
	"math"
	"math/big"
	"math/rand"
	"reflect"
	"slices"
	"strings"
	"testing"

	"taskmaster/api"
	"taskmaster/task"
)

const (
	all = math.MaxUint64
	top = int64(api.Top)
)

// none stands, in a table, for the answer 0, false.
const none = int64(-1)

// odd are priorities that no set has a task of.
var odd = []int{-1, -2, -8, math.MinInt, math.MinInt + 1, math.MaxInt, math.MaxInt - 1, math.MinInt32, math.MaxInt32, -1 << 32, 1 << 32, 1 << 40, api.MaxTasks, api.MaxTasks + 1, 64}

// wrong are blocks that may not be: some of them come back among those that may, if they are cut to fewer digits.
var wrong = []int64{-1, -2, -top, top + 1, top + 2, 2 * top, 1<<32 + 1, 1<<40 + 5, -1<<32 + 1, math.MinInt64, math.MinInt64 + 1, math.MaxInt64, math.MaxInt64 - 1}

// one is a task of a period, without a name.
func one(period int64, regions ...int64) api.Task {
	return api.Task{T: period, D: period, Regions: regions}
}

// touches is a task that touches cache sets, and needs some of them again.
func touches(t api.Task, ecb, ucb uint64) api.Task {
	t.ECB, t.UCB = ecb, ucb
	return t
}

// setOf is a set of tasks, which have names by their places.
func setOf(reload int64, l ...api.Task) api.Set {
	s := api.Set{Reload: reload, Tasks: slices.Clone(l)}
	for i := range s.Tasks {
		s.Tasks[i].Name = fmt.Sprint("t", i)
	}
	return s
}

// loads are loads, from pairs of T and C.
func loads(l ...int64) []api.Load {
	var out []api.Load
	for i := 0; i < len(l); i += 2 {
		out = append(out, api.Load{T: l[i], C: l[i+1]})
	}
	return out
}

// example is the chapter's: one task, T 5, 2 ticks.
func example() api.Set { return setOf(0, one(5, 2)) }

// mixed is a set in which what is ahead makes others load something, or nothing, and whose periods are in no order.
func mixed() api.Set {
	return setOf(3, touches(one(900, 20, 7), 0b1011, 0b10), touches(one(70, 5), 0b100, 0b100),
		touches(one(9000, 4, 4, 4), 0b11, 0b1), one(200, 9), touches(one(1000, 30), 0b1001, 0b1000))
}

// wantLoads asks for one answer of Loads, of a task of a set that may be.
func wantLoads(t *testing.T, s api.Set, i int, l []api.Load) {
	t.Helper()
	if got := Loads(s, i); !slices.Equal(got, l) {
		t.Fatalf("Loads %d in %+v: %v, want %v", i, s, got, l)
	}
}

// wantOf asks for one answer of Of.
func wantOf(t *testing.T, s api.Set, i int, block, n int64) {
	t.Helper()
	if got, ok := Of(s, i, block); ok != (n != none) || got != max(n, 0) {
		t.Fatalf("Of %d, %d in %+v: %d, %t, want %d (-1: none)", i, block, s, got, ok, n)
	}
}

// wantNothing asks for nil, and for 0, false, at each block.
func wantNothing(t *testing.T, s api.Set, l ...int) {
	t.Helper()
	for _, i := range l {
		if got := Loads(s, i); got != nil {
			t.Fatalf("Loads %d in %d tasks: %v, want nil", i, len(s.Tasks), got)
		}
		for _, block := range append([]int64{0, 1, 7, top}, wrong...) {
			if n, ok := Of(s, i, block); n != 0 || ok {
				t.Fatalf("Of %d, %d in %d tasks: %d, %t, want 0, false", i, block, len(s.Tasks), n, ok)
			}
		}
	}
}

// digits is the cache sets, as they are written.
func digits(x uint64) string { return fmt.Sprintf("%064b", x) }

// work is the ticks of a task, summed here.
func work(x api.Task) int64 {
	n := int64(0)
	for _, r := range x.Regions {
		n += r
	}
	return n
}

// toldLoads is what the chapter asks of Loads, of a task of a set that may be: a job's work, and one Reload for each cache set that it takes from whatever is lower than it.
func toldLoads(s api.Set, i int) []api.Load {
	var l []api.Load
	for j := 0; j < i; j++ {
		c, taken := work(s.Tasks[j]), map[int]int{}
		for _, lower := range s.Tasks[j+1:] {
			needed := digits(lower.UCB)
			for k, d := range digits(s.Tasks[j].ECB) {
				if d == '1' && needed[k] == '1' {
					taken[k]++
				}
			}
		}
		l = append(l, api.Load{T: s.Tasks[j].T, C: c + s.Reload*int64(len(taken))})
	}
	return l
}

// comes is what comes to the processor: what is told of Loads, and the task itself.
func comes(s api.Set, i int) []api.Load {
	return append(toldLoads(s, i), api.Load{T: s.Tasks[i].T, C: work(s.Tasks[i])})
}

// isFull tells whether no time is left: in each time from 1 on more comes than it is long.
func isFull(l []api.Load, block int64) bool {
	part := new(big.Rat)
	for _, x := range l {
		part.Add(part, big.NewRat(x.C, x.T))
	}
	more := part.Cmp(big.NewRat(1, 1))
	return more > 0 || more == 0 && block > 0
}

// busy is Of by a processor that works, from one arrival to the next one, at what came, until for the first time nothing is left.
func busy(s api.Set, i int, block int64) int64 {
	l, now, left := comes(s, i), int64(0), block
	if isFull(l, block) {
		return none
	}
	next := make([]int64, len(l))
	for {
		for k, x := range l {
			if next[k] == now {
				left, next[k] = left+x.C, now+x.T
			}
		}
		if left > top-now {
			return none
		}
		until := slices.Min(next)
		if left <= until-now {
			return now + left
		}
		left -= until - now
		now = until
	}
}

// byTicks is busy, one tick after the other, where there is one.
func byTicks(s api.Set, i int, block int64) int64 {
	l, left := comes(s, i), block
	for now := int64(0); ; now++ {
		for _, x := range l {
			if now%x.T == 0 {
				left += x.C
			}
		}
		if left--; left == 0 {
			return now + 1
		}
	}
}

// wantTold asks for what the chapter asks, of each task and beyond them, at some blocks.
func wantTold(t *testing.T, s api.Set, blocks ...int64) {
	t.Helper()
	if !task.All(s) {
		t.Fatalf("a set that may not be: %+v", s)
	}
	for i := range s.Tasks {
		wantLoads(t, s, i, toldLoads(s, i))
		for _, block := range blocks {
			wantOf(t, s, i, block, busy(s, i, block))
		}
	}
	wantNothing(t, s, -1, len(s.Tasks))
}

func TestP11_1Example(t *testing.T) {
	s := example()
	wantLoads(t, s, 0, nil)
	for block, n := range []int64{2, 3, 4, 5, 8, 9, 10, 13, 14, 15, 18} {
		wantOf(t, s, 0, int64(block), n)
	}
	wantNothing(t, s, -1, 1)
	s = mixed()
	wantLoads(t, s, 4, loads(900, 33, 70, 5, 9000, 12, 200, 9))
	for i, n := range []int64{27, 38, 50, 59, 94} {
		wantOf(t, s, i, 0, n)
	}
}

// The length of Loads is the priority; each answers to its own place, in the order of the tasks, not of their periods.
func TestP11_1InOrder(t *testing.T) {
	var l []api.Task
	var want []api.Load
	for k, period := range []int64{5000, 700, 9000, 800, 10000, 300, 6000, 400} {
		l = append(l, one(period, int64(k)+1, 10))
		want = append(want, api.Load{T: period, C: int64(k) + 11})
	}
	sums := []int64{11, 23, 36, 50, 65, 81, 98, 116}
	for n := 1; n <= api.MaxTasks; n++ {
		for i := range n {
			wantLoads(t, setOf(5, l[:n]...), i, want[:i])
			wantOf(t, setOf(5, l[:n]...), i, 0, sums[i])
			wantOf(t, setOf(5, l[:n]...), i, 40, sums[i]+40)
		}
	}
	l[2], l[5] = l[5], l[2]
	wantLoads(t, setOf(5, l...), 7, loads(5000, 11, 700, 12, 300, 16, 800, 14, 10000, 15, 9000, 13, 6000, 17))
}

// Of each number that is no task's priority there is nothing, in sets of any size.
func TestP11_1Priorities(t *testing.T) {
	for n := 1; n <= api.MaxTasks; n++ {
		s := setOf(0, slices.Repeat([]api.Task{one(1000, 9)}, n)...)
		for i := range n {
			wantLoads(t, s, i, slices.Repeat(loads(1000, 9), i))
			wantOf(t, s, i, 0, 9*int64(i+1))
			for shift := 8; shift < 63; shift++ { // those that come back among its priorities, if cut to fewer digits
				wantNothing(t, s, i+1<<shift, i-1<<shift)
			}
			wantNothing(t, s, i+math.MinInt, -i-1)
		}
		wantNothing(t, s, n, n+1, 2*n, -n, -n-1)
		wantNothing(t, s, odd...)
	}
}

// The highest priority has nothing ahead of it, whatever is below.
func TestP11_1Highest(t *testing.T) {
	for n := 1; n <= api.MaxTasks; n++ {
		s := setOf(api.MaxTime, slices.Repeat([]api.Task{touches(one(50, 3, 4), all, all)}, n)...)
		if l := Loads(s, 0); len(l) != 0 {
			t.Errorf("Loads 0 of %d: %v", n, l)
		}
		wantOf(t, s, 0, 0, 7)
		wantOf(t, s, 0, 43, 50)
		wantOf(t, s, 0, 44, 58)
	}
}

// What a task ahead makes others load again, it makes all load that are lower than it: those ahead of i, i, and those below i.
func TestP11_1Loading(t *testing.T) {
	for i := 1; i < api.MaxTasks; i++ {
		for j := range api.MaxTasks {
			for needs := range api.MaxTasks {
				l := slices.Repeat([]api.Task{one(1000, 2)}, api.MaxTasks)
				l[needs] = touches(l[needs], 1<<9, 1<<9)
				l[j] = touches(l[j], l[j].ECB|1<<9|1, l[j].UCB)
				want, n := slices.Repeat(loads(1000, 2), i), 2*int64(i+1)
				if j < i && needs > j {
					want[j].C, n = 9, n+7
				}
				wantLoads(t, setOf(7, l...), i, want)
				wantOf(t, setOf(7, l...), i, 0, n)
			}
		}
	}
	// nothing: not touched, or not needed
	wantLoads(t, setOf(7, touches(one(50, 2), 0b101, 0b101), touches(one(60, 3), 0b1010, 0b10)), 1, loads(50, 2))
	wantLoads(t, setOf(7, touches(one(50, 2), all, all), touches(one(60, 3), all, 0)), 1, loads(50, 2))
	// a cache set counts once, however many need it
	wantLoads(t, setOf(7, touches(one(50, 2), 0b110, 0), touches(one(60, 3), 0b111, 0b111), touches(one(70, 4), 0b11, 0b11)), 2, loads(50, 16, 60, 17))
}

// Each Reload at an edge, with no cache set up to all of them.
func TestP11_1Reload(t *testing.T) {
	for n := range int64(api.Sets + 1) {
		x := uint64(1)<<n - 1 // a shift by 64 leaves nothing, and so all
		for _, reload := range []int64{0, 1, 2, 9999, api.MaxTime} {
			s := setOf(reload, touches(one(10000, 3), all, 0), touches(one(10000, 4), x, x))
			wantLoads(t, s, 1, loads(10000, 3+reload*n))
			wantOf(t, s, 0, 0, 3)
			wantOf(t, s, 0, 5, 8)
			most := none
			if 7+reload*n <= 10000 {
				most = 7 + reload*n
			}
			wantOf(t, s, 1, 0, most)
		}
	}
	long := setOf(api.MaxTime, touches(one(10000, 10000), all, all), touches(one(1, 1), all, all))
	wantLoads(t, long, 1, loads(10000, 650000))
	wantOf(t, long, 1, 0, none)
	wantOf(t, long, 0, 0, 10000)
	for reload := range int64(api.MaxTime + 1) {
		s := setOf(reload, touches(one(10000, 1), 1, 0), touches(one(10000, 1), 1, 1))
		wantLoads(t, s, 1, loads(10000, 1+reload))
		wantOf(t, s, 1, 0, map[bool]int64{true: 2 + reload, false: none}[2+reload <= 10000])
	}
}

// The task itself counts by its work, and not by what it makes others load, nor by what it may have to load.
func TestP11_1OwnWork(t *testing.T) {
	for _, reload := range []int64{0, 1, 9, api.MaxTime} {
		below := touches(one(9000, 5), all, all)
		wantOf(t, setOf(reload, touches(one(10, 1), all, all), below), 0, 0, 1)
		wantOf(t, setOf(reload, touches(one(10, 1), all, all), below), 0, 8, 9)
		wantOf(t, setOf(reload, touches(one(10, 1), all, all), below), 0, 9, 10)
		wantOf(t, setOf(reload, touches(one(10, 1), all, all), below), 0, 10, 12)
		wantOf(t, setOf(reload, one(20, 2, 1), touches(one(30, 4, 2), all, all), below), 1, 0, 9)
		wantOf(t, setOf(reload, one(20, 2, 1), touches(one(30, 4, 2), all, 0), below), 1, 12, 24)
	}
	regions := []int64{1, 20, 300, 4, 5, 60, 700, 3}
	for n, sum := range []int64{1, 21, 321, 325, 330, 390, 1090, 1093} {
		wantOf(t, setOf(2, one(2000, regions[:n+1]...)), 0, 0, sum)
		wantLoads(t, setOf(2, one(2000, regions[:n+1]...), one(5, 1)), 1, loads(2000, sum))
	}
}

// The task itself comes again, too, by its own period, behind all that is ahead.
func TestP11_1OwnPeriod(t *testing.T) {
	wantOf(t, setOf(0, one(10000, 2), one(10, 3)), 1, 5, 10)
	wantOf(t, setOf(0, one(10000, 2), one(10, 3)), 1, 6, 14)
	wantOf(t, setOf(0, one(10000, 2), one(10, 3)), 1, 20, 34)
	wantOf(t, setOf(0, one(10000, 2), one(11, 3)), 1, 6, 11)
	wantOf(t, setOf(0, one(10, 2), one(10000, 3)), 1, 6, 13)
}

// What comes at the end has not come: a block by which it ends just as a task ahead comes again, and one more.
func TestP11_1ComesAgain(t *testing.T) {
	for _, x := range []struct {
		s        api.Set
		i        int
		block, n int64
		more     int64
	}{
		{setOf(0, one(10, 2), one(100, 3)), 1, 5, 10, 13}, {setOf(0, one(10, 2), one(100, 3)), 1, 13, 20, 23},
		{setOf(0, one(10, 9), one(100, 1)), 1, 0, 10, 20}, {setOf(0, one(10, 9), one(100, 1)), 1, 9, 100, 120},
		{setOf(4, touches(one(20, 2), 1, 0), touches(one(300, 3), 1, 1)), 1, 11, 20, 27},
		{setOf(4, touches(one(20, 2), 1, 0), one(300, 3), touches(one(400, 1), 1, 1)), 1, 11, 20, 27},
		{setOf(0, one(50, 2), one(30, 4), one(900, 7)), 2, 17, 30, 35}, {setOf(0, one(50, 2), one(30, 4), one(900, 7)), 2, 31, 48, 49},
		{setOf(0, one(50, 2), one(30, 4), one(900, 7)), 2, 33, 50, 53}, {setOf(0, one(50, 2), one(30, 4), one(60, 7)), 2, 41, 60, 72},
		{setOf(0, one(5, 2)), 0, 3, 5, 8},
	} {
		wantOf(t, x.s, x.i, x.block, x.n)
		wantOf(t, x.s, x.i, x.block+1, x.more)
		wantTold(t, x.s, x.block, x.block+1)
	}
}

// The blocks that may be are 0 to Top; at Top there is none, as the task itself comes behind it.
func TestP11_1Blocks(t *testing.T) {
	sets := []api.Set{example(), mixed(), setOf(0, one(1, 1)), setOf(0, one(10000, 1)), setOf(api.MaxTime, slices.Repeat([]api.Task{one(10000, 1)}, api.MaxTasks)...)}
	for _, s := range sets {
		for i := range s.Tasks {
			for _, block := range append([]int64{top}, wrong...) {
				wantOf(t, s, i, block, none)
			}
		}
		wantTold(t, s, 0, 1, 2, 500, 10000, top/2, top-900, top-100, top-1, top)
	}
	wantOf(t, setOf(0, one(10000, 1)), 0, 1, 2)
	wantOf(t, setOf(0, one(10000, 1)), 0, 9999, 10000)
	wantOf(t, setOf(0, one(10000, 1)), 0, 10000, 10002)
}

func TestP11_1LeastOne(t *testing.T) {
	for _, period := range []int64{1, 2, 7, 10000} {
		wantOf(t, setOf(0, one(period, 1)), 0, 0, 1)
		wantOf(t, setOf(api.MaxTime, touches(one(period, 1), all, all), touches(one(10000, 10000), all, all)), 0, 0, 1)
		wantOf(t, setOf(0, one(10000, 1), one(period, 1)), 1, 0, map[bool]int64{true: 2, false: none}[period > 1])
	}
}

// One that is just Top, and what is one more.
func TestP11_1JustTop(t *testing.T) {
	loading := setOf(1, touches(one(10000, 1), all, 0), touches(one(10000, 10), all, all))
	for _, x := range []struct {
		s     api.Set
		i     int
		block int64
	}{
		{setOf(0, one(10000, 1)), 0, top - 100}, {setOf(0, one(2, 1)), 0, top / 2}, {setOf(0, one(5, 4)), 0, top / 5},
		{setOf(0, one(1000, 999)), 0, 1000}, {setOf(0, one(10000, 9999)), 0, 100},
		{setOf(0, one(1000, 1), one(10000, 1)), 1, top - 1100}, {setOf(0, one(10, 9), one(1000, 99)), 1, 1000},
		{loading, 1, top - 7500}, {setOf(0, slices.Repeat([]api.Task{one(10000, 1000)}, 8)...), 7, top - 800000},
	} {
		wantOf(t, x.s, x.i, x.block, top)
		wantOf(t, x.s, x.i, x.block+1, none)
		wantTold(t, x.s, x.block-1, x.block, x.block+1)
	}
}

// None, because it would be past Top, though the tasks leave time.
func TestP11_1PastTop(t *testing.T) {
	for _, x := range []struct {
		s     api.Set
		i     int
		block int64
	}{
		{setOf(0, one(10000, 1)), 0, top - 99}, {setOf(0, one(10000, 1)), 0, top - 1}, {setOf(0, one(10000, 1)), 0, top},
		{setOf(0, one(2, 1)), 0, top/2 + 1}, {setOf(0, one(1000, 999)), 0, 1001}, {setOf(0, one(9999, 9998)), 0, 101},
		{setOf(0, one(10, 9), one(1000, 99)), 1, 1001}, {setOf(0, one(1000, 1), one(10000, 1)), 1, top - 1099},
	} {
		wantOf(t, x.s, x.i, x.block, none)
		wantTold(t, x.s, x.block)
	}
}

// None, because the tasks ask for as much as there is time, or for more; without a block as much may do.
func TestP11_1NoTimeLeft(t *testing.T) {
	for _, x := range []struct {
		s api.Set
		n int64 // of the last task, at block 0
	}{
		{setOf(0, one(1, 1)), 1}, {setOf(0, one(7, 7)), 7}, {setOf(0, one(10000, 10000)), 10000},
		{setOf(0, one(2, 1), one(4, 2)), 4}, {setOf(0, one(2, 1), one(3, 1), one(6, 1)), 6}, {setOf(0, one(3, 1), one(5, 2), one(15, 4)), 15},
		{setOf(9998, touches(one(10000, 1), 1, 0), touches(one(10000, 1), 1, 1)), 10000},
		{setOf(1, touches(one(4, 1), 3, 0), touches(one(8, 1), 0, 0), touches(one(8, 1), 3, 3)), 8},
		{setOf(0, one(1, 1), one(10000, 1)), none}, {setOf(0, one(2, 1), one(3, 2)), none}, {setOf(0, one(10000, 9000), one(10000, 1001)), none},
		{setOf(9, touches(one(10, 1), 1, 0), touches(one(10000, 1), 1, 1)), none},
		{setOf(9999, touches(one(10000, 1), 1, 0), touches(one(10000, 1), 1, 1)), none},
		{setOf(1, touches(one(2, 1), 1, 0), one(9, 1), touches(one(9, 1), 1, 1)), none},
		{setOf(api.MaxTime, slices.Repeat([]api.Task{touches(one(1, 1), all, all)}, 8)...), none},
	} {
		last := len(x.s.Tasks) - 1
		wantOf(t, x.s, last, 0, x.n)
		for _, block := range []int64{1, 2, 100, top} {
			wantOf(t, x.s, last, block, none)
		}
		wantTold(t, x.s, 0, 1)
	}
}

// Neither names, deadlines nor modes are of any weight.
func TestP11_1NothingElse(t *testing.T) {
	plain := mixed()
	for mode := range 3 {
		for _, n := range []int64{0, 1, 40, api.MaxTime} {
			s := mixed()
			for i := range s.Tasks {
				s.Tasks[i].Name, s.Tasks[i].D = string("zmacb"[i]), task.Work(s.Tasks[i])+n%7
				switch s.Tasks[i].Mode = mode; mode {
				case api.Float:
					s.Tasks[i].Q = n
				case api.Thresh:
					s.Tasks[i].Theta = min(int(n), i)
				}
			}
			for i := range s.Tasks {
				wantLoads(t, s, i, Loads(plain, i))
			}
			for i, row := range [][]int64{{27, 900}, {38, 1014}, {50, 1026}, {59, 1085}, {94, 1150}} {
				wantOf(t, plain, i, 0, row[0])
				wantOf(t, s, i, 0, row[0])
				wantOf(t, plain, i, 873, row[1])
				wantOf(t, s, i, 873, row[1])
			}
			wantTold(t, s, 0, 1, 873, 50000)
		}
	}
}

// What is below counts by what it needs again alone.
func TestP11_1Below(t *testing.T) {
	for _, below := range []api.Task{one(1, 1), one(10000, 10000), touches(one(3, 2), all, 0b1)} {
		s := setOf(5, touches(one(40, 2), 0b1, 0), one(60, 3), touches(one(900, 9), 0b1, 0b1), below)
		wantLoads(t, s, 1, loads(40, 7))
		wantLoads(t, s, 2, loads(40, 7, 60, 3))
		wantOf(t, s, 1, 30, 40)
		wantOf(t, s, 1, 31, 48)
	}
}

// All sets of up to three short tasks, tick by tick.
func TestP11_1AllSmall(t *testing.T) {
	ask := func(l ...api.Task) {
		s := setOf(1, l...)
		i := len(l) - 1
		wantLoads(t, s, i, toldLoads(s, i))
		for block := range int64(4) {
			n := busy(s, i, block)
			if n != none && byTicks(s, i, block) != n {
				t.Fatalf("%d, %d in %+v: %d is not so tick by tick", i, block, s, n)
			}
			wantOf(t, s, i, block, n)
		}
	}
	var l []api.Task
	for period := int64(1); period < 6; period++ {
		for c := int64(1); c <= period; c += 2 {
			l = append(l, one(period, c), touches(one(period, c), 1, 1))
		}
	}
	for _, a := range l {
		ask(a)
		for _, b := range l {
			ask(a, b)
			for _, c := range l {
				ask(a, b, c)
			}
		}
	}
}

// pick is one of several numbers, by chance.
func pick(r *rand.Rand, l ...int64) int64 { return l[r.Intn(len(l))] }

// anyTask is a task that may be at a place, and asks for about a part of the time.
func anyTask(r *rand.Rand, at int, part float64) api.Task {
	most := pick(r, 20, 300, api.MaxTime)
	x := one(1 + r.Int63n(most))
	left := min(x.T, 1+int64(2*r.Float64()*part*float64(x.T)))
	for range r.Intn(api.MaxRegions) {
		if left > 1 {
			n := 1 + r.Int63n(left-1)
			x.Regions = append(x.Regions, n)
			left -= n
		}
	}
	x.Regions = append(x.Regions, left)
	x.D = pick(r, x.T, work(x), work(x)+r.Int63n(x.T-work(x)+1))
	switch x.Mode = r.Intn(3); x.Mode {
	case api.Float:
		x.Q = pick(r, 0, 1, work(x), api.MaxTime)
	case api.Thresh:
		x.Theta = r.Intn(at + 1)
	}
	x.ECB = []uint64{0, 1, 1 << 63, all, r.Uint64(), r.Uint64() & r.Uint64() & r.Uint64()}[r.Intn(6)]
	x.UCB = x.ECB & []uint64{0, all, r.Uint64(), r.Uint64() & r.Uint64() & r.Uint64()}[r.Intn(4)]
	return x
}

// anySet is a set that may be, often with time left.
func anySet(r *rand.Rand) api.Set {
	var l []api.Task
	n := 1 + r.Intn(api.MaxTasks)
	part := []float64{0.05, 0.5, 0.9, 1.2}[r.Intn(4)] / float64(n)
	for at := range n {
		l = append(l, anyTask(r, at, part))
	}
	return setOf(pick(r, 0, 0, 1, 2, 5, r.Int63n(api.MaxTime+1), api.MaxTime), l...)
}

// anyBlock is a block that may be.
func anyBlock(r *rand.Rand) int64 { return r.Int63n(pick(r, 3, 60, 3000, top+1)) }

func TestP11_1ByChance(t *testing.T) {
	r := rand.New(rand.NewSource(111))
	found, lost := 0, 0
	for range 3000 {
		s := anySet(r)
		block := anyBlock(r)
		wantTold(t, s, 0, block)
		for i := range s.Tasks {
			if _, ok := Of(s, i, block); ok {
				found++
			} else {
				lost++
			}
		}
	}
	if found < 2000 || lost < 2000 {
		t.Errorf("%d found, %d not", found, lost)
	}
}

// good is a set that may be, in which each task has something at each block that is not too long.
func good() api.Set {
	return setOf(4, touches(one(900, 3, 9), 0b111, 0b1), touches(one(700, 7), 0b11, 0b11), touches(one(800, 2, 8), 0b1, 0b1))
}

// spoiled are sets that may not be, each by one fault, in a task of each place or in the set itself.
func spoiled() []api.Set {
	var l []api.Set
	whole := func(change func(s *api.Set)) {
		s := good()
		change(&s)
		l = append(l, s)
	}
	each := func(change func(t *api.Task)) {
		for i := range 3 {
			whole(func(s *api.Set) { change(&s.Tasks[i]) })
		}
	}
	for _, n := range []int64{-1, api.MaxTime + 1, math.MinInt64, math.MaxInt64, -1 << 32, 1 << 32} {
		whole(func(s *api.Set) { s.Reload = n })
		each(func(t *api.Task) { t.T = n })
		each(func(t *api.Task) { t.D = n })
		each(func(t *api.Task) { t.T, t.D = n, n })
		each(func(t *api.Task) { t.Mode, t.Q = api.Float, n })
		each(func(t *api.Task) { t.Mode, t.Theta = api.Thresh, int(n) })
		each(func(t *api.Task) { t.Mode = int(n) })
		each(func(t *api.Task) { t.Regions = []int64{n} })
		each(func(t *api.Task) { t.Regions = []int64{n, 1} })
	}
	for _, name := range []string{"", "A", "9", "task", " a", "a ", "a#", "é", "\xff", "abcdefghijklm", strings.Repeat("a", 1<<10)} {
		each(func(t *api.Task) { t.Name = name })
	}
	each(func(t *api.Task) { t.Regions = nil })
	each(func(t *api.Task) { t.Regions = []int64{} })
	each(func(t *api.Task) { t.Regions = []int64{0} })
	each(func(t *api.Task) { t.Regions = slices.Repeat([]int64{1}, api.MaxRegions+1) })
	each(func(t *api.Task) { t.T, t.D = 0, 0 })
	each(func(t *api.Task) { t.D = 1 })
	each(func(t *api.Task) { t.T-- })
	each(func(t *api.Task) { t.Q = 1 })
	each(func(t *api.Task) { t.Theta = 1 })
	each(func(t *api.Task) { t.Mode, t.Theta = api.Thresh, 3 })
	each(func(t *api.Task) { t.Mode = 3 })
	each(func(t *api.Task) { t.UCB = 0b1000 })
	each(func(t *api.Task) { t.UCB = all })
	whole(func(s *api.Set) { s.Tasks[2].Name = s.Tasks[0].Name })
	whole(func(s *api.Set) { s.Tasks[2].Name = s.Tasks[1].Name })
	for _, n := range []int{api.MaxTasks + 1, api.MaxTasks + 2, 64, 65} {
		l = append(l, setOf(4, slices.Repeat([]api.Task{touches(one(900, 9), all, all)}, n)...))
	}
	return append(l, api.Set{}, setOf(4), api.Set{Reload: 4, Tasks: []api.Task{}}, api.Set{Reload: 4, Tasks: good().Tasks[:0]}, api.Set{Tasks: make([]api.Task, 3)})
}

// Of a set that may not be there is nothing, whatever the priority and the block, whichever task is at fault.
func TestP11_1SetsThatMayNotBe(t *testing.T) {
	for _, s := range spoiled() {
		if task.All(s) {
			t.Fatalf("a set that may be: %+v", s)
		}
		for i := range len(s.Tasks) + 2 {
			wantNothing(t, s, i)
		}
		wantNothing(t, s, odd...)
	}
	wantLoads(t, good(), 2, loads(900, 20, 700, 11))
	for i, n := range []int64{12, 27, 41} {
		wantOf(t, good(), i, 0, n)
	}
}

// Of very many tasks there is nothing, and it is told soon.
func TestW1VeryMany(t *testing.T) {
	s := setOf(4, slices.Repeat([]api.Task{one(900, 9)}, 1<<16)...)
	wantNothing(t, s, append([]int{0, 1, 1<<16 - 2, 1<<16 - 1, 1 << 16}, odd...)...)
}

// Each round may come one further only, for as long as there is time: it ends, too.
func TestW1AllRounds(t *testing.T) {
	s := setOf(0, one(1, 1), one(10000, 1), one(1, 1))
	wantOf(t, s, 0, 1, none)
	wantOf(t, s, 1, 0, none)
	wantOf(t, s, 2, 0, none)
}

// wantNoGreater asks for an answer that is at most n, as with more block it is n.
func wantNoGreater(t *testing.T, s api.Set, i int, block, n int64) {
	t.Helper()
	if less, ok := Of(s, i, block); !ok || less > n || less < 1 {
		t.Fatalf("Of %d, %d in %+v: %d, %t, with more %d", i, block, s, less, ok, n)
	}
}

// With less block it is no greater; and there is one, if there is one with more.
func TestP11_2LessBlock(t *testing.T) {
	r := rand.New(rand.NewSource(112))
	met := 0
	for range 1500 {
		s := anySet(r)
		for i := range s.Tasks {
			block := anyBlock(r)
			n, ok := Of(s, i, block)
			if !ok {
				continue
			}
			met++
			for less := block - 1; less >= 0; less -= 1 + block/20 {
				wantNoGreater(t, s, i, less, n)
			}
			wantNoGreater(t, s, i, 0, n)
			wantNoGreater(t, s, i, block/2, n)
		}
	}
	if met < 1000 {
		t.Errorf("only %d found", met)
	}
}

// Block by block, up to where there is none any more, it rises; behind that there is none at all.
func TestP11_2EachBlock(t *testing.T) {
	for _, s := range []api.Set{example(), mixed(), good(), setOf(0, one(1000, 999)), setOf(0, one(10, 9), one(1000, 99))} {
		for i := range s.Tasks {
			last, ended := int64(0), false
			for block := range int64(2500) {
				n, ok := Of(s, i, block)
				if ok && (ended || n <= last || n <= block) {
					t.Fatalf("Of %d, %d in %+v: %d, with less %d", i, block, s, n, last)
				}
				last, ended = n, !ok
			}
		}
	}
}

// spared is a set with room behind its lists' ends, and all of that room.
func spared(s api.Set) (api.Set, []api.Task, [][]int64) {
	tasks := append(slices.Clone(s.Tasks), touches(one(9000, 900), all, all), touches(one(8000, 800), all, all))
	tasks[len(s.Tasks)].Name, tasks[len(s.Tasks)+1].Name = "spare", "room"
	var rows [][]int64
	for i := range tasks {
		row := append(slices.Clone(tasks[i].Regions), 7777, 8888)
		rows = append(rows, row)
		tasks[i].Regions = row[:len(row)-2]
	}
	return api.Set{Reload: s.Reload, Tasks: tasks[:len(s.Tasks)]}, tasks, rows
}

// What is handed in is as it was, its lists' spare room too; and that room is no part of the set.
func TestW6HandedIn(t *testing.T) {
	r := rand.New(rand.NewSource(116))
	sets := spoiled()
	for range 500 {
		sets = append(sets, anySet(r))
	}
	for _, s := range sets {
		x, tasks, rows := spared(s)
		_, wantTasks, wantRows := spared(s)
		for i := -1; i < min(len(s.Tasks), api.MaxTasks)+3; i++ {
			wantLoads(t, x, i, Loads(s, i))
			for _, block := range []int64{-1, 0, 9, 500} {
				n, ok := Of(s, i, block)
				wantOf(t, x, i, block, map[bool]int64{true: n, false: none}[ok])
			}
		}
		if !reflect.DeepEqual(tasks, wantTasks) || !reflect.DeepEqual(rows, wantRows) || x.Reload != s.Reload {
			t.Fatalf("%+v has changed: %+v, %v", s, tasks, rows)
		}
	}
}

// fill writes into all of a list's room.
func fill(l []api.Load, x api.Load) {
	l = l[:cap(l)]
	for k := range l {
		l[k] = x
	}
}

// Two answers share no room, whether they are of one task or of two; nor does what is written into them come back.
func TestW6AnswersApart(t *testing.T) {
	r := rand.New(rand.NewSource(117))
	sets := []api.Set{mixed(), good()}
	for range 200 {
		sets = append(sets, anySet(r))
	}
	for _, s := range sets {
		kept := setOf(s.Reload, s.Tasks...)
		var answers [][]api.Load
		for range 2 {
			for i := range s.Tasks {
				answers = append(answers, Loads(s, i), Loads(s, i))
			}
		}
		for k, l := range answers {
			fill(l, api.Load{T: int64(k), C: -1})
		}
		for k, l := range answers {
			for _, x := range l[:cap(l)] {
				if x != (api.Load{T: int64(k), C: -1}) {
					t.Fatalf("answer %d of %+v shares room: %v", k, s, l)
				}
			}
		}
		if !task.Same(s, kept) {
			t.Fatalf("%+v has changed: %+v", kept, s)
		}
		wantTold(t, s, 0, 9)
	}
}

// What was answered stays, whatever is asked behind it, and whatever becomes of the set.
func TestW7Stays(t *testing.T) {
	s := mixed()
	l := Loads(s, 4)
	for i := range s.Tasks {
		Loads(s, i)
		Of(s, i, 9)
	}
	for i := range s.Tasks {
		s.Tasks[i].T, s.Tasks[i].Regions[0] = 9999, 1
	}
	Loads(s, 4)
	Of(s, 4, 9)
	if !slices.Equal(l, loads(900, 33, 70, 5, 9000, 12, 200, 9)) {
		t.Errorf("it is %v now", l)
	}
}

// An answer hangs on nothing that was asked ahead of it.
func TestW2AskedAgain(t *testing.T) {
	r := rand.New(rand.NewSource(110))
	sets := []api.Set{example(), mixed(), {}, good(), setOf(-1, one(5, 1), one(9, 2))}
	for range 5 {
		sets = append(sets, anySet(r))
	}
	for _, s := range sets {
		for i := -1; i < api.MaxTasks+1; i++ {
			l := Loads(s, i)
			n, ok := Of(s, i, 30)
			for _, other := range sets {
				for k := -1; k < len(other.Tasks)+1; k++ {
					Loads(other, k)
					Of(other, k, 31)
				}
				wantLoads(t, s, i, l)
				wantOf(t, s, i, 30, map[bool]int64{true: n, false: none}[ok])
			}
		}
	}
}
