package resp

import (
	"fmt"
	"math"
	"math/big"
	"math/rand"
	"reflect"
	"slices"
	"strings"
	"testing"

	"taskmaster/active"
	"taskmaster/api"
	"taskmaster/fix"
	"taskmaster/task"
)

const (
	all = math.MaxUint64
	top = int64(api.Top)
)

// odd are priorities that no set has a task of.
var odd = []int{-1, -2, -8, math.MinInt, math.MinInt + 1, math.MaxInt, math.MaxInt - 1, math.MinInt32, math.MaxInt32, -1 << 32, 1 << 32, 1 << 40, api.MaxTasks, api.MaxTasks + 1, 64}

// wrong are blocks that may not be: some of them come back among those that may, if they are cut to fewer digits.
var wrong = []int64{-1, -2, -top, top + 1, top + 2, 2 * top, 1<<32 + 1, 1<<40 + 5, -1<<32 + 1, math.MinInt64, math.MinInt64 + 1, math.MaxInt64, math.MaxInt64 - 1}

// bound is an answer.
type bound struct {
	r   int64
	how int
}

// limit is the answer where there is no bound.
var limit = bound{0, api.Limit}

// accept and miss are answers where there is one.
func accept(r int64) bound { return bound{r, api.Accept} }
func miss(r int64) bound   { return bound{r, api.Miss} }

// judged is a bound, by a deadline.
func judged(r, deadline int64) bound {
	if r > deadline {
		return miss(r)
	}
	return accept(r)
}

// one is a task of a period, without a name.
func one(period int64, regions ...int64) api.Task {
	return api.Task{T: period, D: period, Regions: regions}
}

// due is a task that is to be done within a shorter time.
func due(t api.Task, deadline int64) api.Task {
	t.D = deadline
	return t
}

// floats and threshs are a task in another mode.
func floats(t api.Task, q int64) api.Task {
	t.Mode, t.Q = api.Float, q
	return t
}
func threshs(t api.Task, theta int) api.Task {
	t.Mode, t.Theta = api.Thresh, theta
	return t
}

// touches is a task that touches cache sets, and needs some of them again.
func touches(t api.Task, ecb, ucb uint64) api.Task {
	t.ECB, t.UCB = ecb, ucb
	return t
}

// setOf is a set of tasks, which have names by their places.
func setOf(reload int64, l ...api.Task) api.Set {
	s := api.Set{Reload: reload, Tasks: slices.Clone(l)}
	for i := range s.Tasks {
		s.Tasks[i].Name = fmt.Sprint("t", i)
	}
	return s
}

// example is the chapter's: one task, T 5, D 5, 2 ticks.
func example() api.Set { return setOf(0, one(5, 2)) }

// later is a set of which the last task's fifth job takes longest.
func later() api.Set { return setOf(0, one(70, 26), one(100, 62)) }

// mixed is a set in which what is ahead makes others load something, or nothing, whose periods are in no order, and which has each mode.
func mixed() api.Set {
	return setOf(3, touches(one(900, 20, 7), 0b1011, 0b10), touches(one(70, 5), 0b100, 0b100), threshs(touches(one(9000, 4, 4, 4), 0b11, 0b1), 1),
		floats(one(200, 9), 6), touches(one(1000, 10, 8, 12), 0b1001, 0b1000))
}

// wantWith asks for one answer of With.
func wantWith(t *testing.T, s api.Set, i int, block int64, b bound) {
	t.Helper()
	if r, how := With(s, i, block); r != b.r || how != b.how {
		t.Fatalf("With %d, %d in %+v: %d, %d, want %v", i, block, s, r, how, b)
	}
}

// wantOf asks for one answer of Of.
func wantOf(t *testing.T, s api.Set, i int, b bound) {
	t.Helper()
	if r, how := Of(s, i); r != b.r || how != b.how {
		t.Fatalf("Of %d in %+v: %d, %d, want %v", i, s, r, how, b)
	}
}

// wantNothing asks for 0, Limit, at each block.
func wantNothing(t *testing.T, s api.Set, l ...int) {
	t.Helper()
	for _, i := range l {
		if r, how := Of(s, i); r != 0 || how != api.Limit {
			t.Fatalf("Of %d in %d tasks: %d, %d, want 0, Limit", i, len(s.Tasks), r, how)
		}
		for _, block := range append([]int64{0, 1, 7, top}, wrong...) {
			if r, how := With(s, i, block); r != 0 || how != api.Limit {
				t.Fatalf("With %d, %d in %d tasks: %d, %d, want 0, Limit", i, block, len(s.Tasks), r, how)
			}
		}
	}
}

// digits is the cache sets, as they are written.
func digits(x uint64) string { return fmt.Sprintf("%064b", x) }

// work is the ticks of a task, summed here.
func work(x api.Task) int64 {
	n := int64(0)
	for _, r := range x.Regions {
		n += r
	}
	return n
}

// comes is what comes to the processor: of what is ahead a job's work, and one Reload for each cache set that it takes from whatever is lower than it; behind them the task itself.
func comes(s api.Set, i int) []api.Load {
	var l []api.Load
	for j := 0; j < i; j++ {
		c, taken := work(s.Tasks[j]), map[int]int{}
		for _, lower := range s.Tasks[j+1:] {
			needed := digits(lower.UCB)
			for k, d := range digits(s.Tasks[j].ECB) {
				if d == '1' && needed[k] == '1' {
					taken[k]++
				}
			}
		}
		l = append(l, api.Load{T: s.Tasks[j].T, C: c + s.Reload*int64(len(taken))})
	}
	return append(l, api.Load{T: s.Tasks[i].T, C: work(s.Tasks[i])})
}

// isFull tells whether no time is left: in each time from 1 on more comes than it is long.
func isFull(l []api.Load, block int64) bool {
	part := new(big.Rat)
	for _, x := range l {
		part.Add(part, big.NewRat(x.C, x.T))
	}
	more := part.Cmp(big.NewRat(1, 1))
	return more > 0 || more == 0 && block > 0
}

// desk is what waits for the processor: what is ahead and the block, and behind them the task's own jobs, first come, first done.
type desk struct {
	now, first int64
	came, left []int64 // of each own job
	longest    int64   // of those that are done
}

// come is a job of the task that comes.
func (d *desk) come(c int64) { d.came, d.left = append(d.came, d.now), append(d.left, c) }

// do works for some ticks, or until nothing is left.
func (d *desk) do(ticks int64) {
	n := min(ticks, d.first)
	d.first, d.now, ticks = d.first-n, d.now+n, ticks-n
	for ticks > 0 && len(d.left) > 0 {
		n = min(ticks, d.left[0])
		d.left[0], d.now, ticks = d.left[0]-n, d.now+n, ticks-n
		if d.left[0] == 0 {
			d.longest = max(d.longest, d.now-d.came[0])
			d.came, d.left = d.came[1:], d.left[1:]
		}
	}
}

// idle tells whether nothing is left.
func (d *desk) idle() bool { return d.first == 0 && len(d.left) == 0 }

// told is With, of a task of a set that may be, by a processor that works, from one arrival to the next one, until for the first time nothing is left; and how long that is.
func told(s api.Set, i int, block int64) (bound, int64) {
	l := comes(s, i)
	if isFull(l, block) {
		return limit, 0
	}
	d, next := &desk{first: block}, make([]int64, len(l))
	for {
		for k, x := range l {
			switch {
			case next[k] != d.now:
				continue
			case k == i:
				d.come(x.C)
			default:
				d.first += x.C
			}
			next[k] += x.T
		}
		d.do(slices.Min(next) - d.now)
		if d.now > top || !d.idle() && d.now == top {
			return limit, 0
		}
		if d.idle() {
			return judged(d.longest, s.Tasks[i].D), d.now
		}
	}
}

// byTicks is told, one tick after the other, where there is a bound: who came first of the own jobs is told by how much of them is done in all.
func byTicks(s api.Set, i int, block int64) bound {
	l, first, done, longest := comes(s, i), block, int64(0), int64(0)
	own := l[i]
	for now := int64(0); ; now++ {
		for _, x := range l[:i] {
			if now%x.T == 0 {
				first += x.C
			}
		}
		if first > 0 {
			first--
		} else if done++; done%own.C == 0 {
			longest = max(longest, now+1-(done/own.C-1)*own.T)
		}
		if came := now/own.T + 1; first == 0 && done == came*own.C {
			return judged(longest, s.Tasks[i].D)
		}
	}
}

// most is how long the lower ones stand in the way, by chapter 9.
func most(s api.Set, i int) int64 {
	n := int64(0)
	for _, x := range s.Tasks[i+1:] {
		own := s.Reload * int64(strings.Count(digits(x.UCB), "1"))
		switch {
		case x.Mode == api.Fixed:
			n = max(n, slices.Max(x.Regions)+own-1)
		case x.Mode == api.Float:
			n = max(n, min(x.Q, work(x)+own-1))
		case x.Theta <= i:
			n = max(n, work(x)+own-1)
		}
	}
	return n
}

// wantTold asks for what the chapter asks, of each task and beyond them, at some blocks.
func wantTold(t *testing.T, s api.Set, blocks ...int64) {
	t.Helper()
	if !task.All(s) {
		t.Fatalf("a set that may not be: %+v", s)
	}
	for i := range s.Tasks {
		for _, block := range blocks {
			b, _ := told(s, i, block)
			wantWith(t, s, i, block, b)
		}
		b, _ := told(s, i, most(s, i))
		wantOf(t, s, i, b)
	}
	wantNothing(t, s, -1, len(s.Tasks))
}

func TestP12_1Example(t *testing.T) {
	s := example()
	wantWith(t, s, 0, 0, accept(2))
	wantOf(t, s, 0, accept(2))
	for block, b := range []bound{accept(2), accept(3), accept(4), accept(5), miss(6), miss(7), miss(8), miss(9), miss(10)} {
		wantWith(t, s, 0, int64(block), b)
	}
	wantNothing(t, s, -1, 1)
}

// What a set's jobs take, each reckoned by hand.
func TestP12_1Mixed(t *testing.T) {
	s := mixed()
	for i, b := range []bound{accept(27), accept(38), accept(50), accept(59), accept(94)} {
		wantWith(t, s, i, 0, b)
	}
	for i, b := range []bound{accept(41), accept(52), accept(64), accept(78), accept(94)} {
		wantOf(t, s, i, b)
	}
	wantWith(t, s, 1, 32, accept(70))
	wantWith(t, s, 1, 33, miss(71))
	wantWith(t, s, 3, 0, accept(59))
	wantWith(t, s, 3, 11, accept(70))
	wantWith(t, s, 3, 12, accept(76))
}

// Of each number that is no task's priority there is nothing, in sets of any size.
func TestP12_1Priorities(t *testing.T) {
	for n := 1; n <= api.MaxTasks; n++ {
		s := setOf(0, slices.Repeat([]api.Task{one(1000, 9)}, n)...)
		for i := range n {
			wantWith(t, s, i, 0, accept(9*int64(i+1)))
			wantWith(t, s, i, 40, accept(9*int64(i+1)+40))
			below := int64(8)
			if i == n-1 {
				below = 0
			}
			wantOf(t, s, i, accept(9*int64(i+1)+below))
			for shift := 8; shift < 63; shift++ { // those that come back among its priorities, if cut to fewer digits
				wantNothing(t, s, i+1<<shift, i-1<<shift)
			}
			wantNothing(t, s, i+math.MinInt, -i-1)
		}
		wantNothing(t, s, n, n+1, 2*n, -n, -n-1)
		wantNothing(t, s, odd...)
	}
}

// Each task has its own answer: its own work, period and deadline, and all that is ahead.
func TestP12_1InOrder(t *testing.T) {
	var l []api.Task
	for k, period := range []int64{5000, 700, 9000, 800, 10000, 300, 6000, 400} {
		l = append(l, due(one(period, int64(k)+1, 10), 99))
	}
	sums := []int64{11, 23, 36, 50, 65, 81, 98, 116}
	for n := 1; n <= api.MaxTasks; n++ {
		for i := range n {
			for _, block := range []int64{0, 1, 40} {
				wantWith(t, setOf(5, l[:n]...), i, block, judged(sums[i]+block, 99))
			}
		}
	}
}

// The highest priority has nothing ahead of it; what it makes others load again does not count for itself.
func TestP12_1Highest(t *testing.T) {
	for n := 1; n <= api.MaxTasks; n++ {
		s := setOf(api.MaxTime, slices.Repeat([]api.Task{touches(one(50, 3, 4), all, all)}, n)...)
		wantWith(t, s, 0, 0, accept(7))
		wantWith(t, s, 0, 43, accept(50))
		wantWith(t, s, 0, 44, miss(51))
		wantWith(t, s, 0, 100, miss(107))
	}
}

// The blocks that may be are 0 to Top; at Top there is no bound, as the task itself comes behind it.
func TestP12_1Blocks(t *testing.T) {
	sets := []api.Set{example(), later(), mixed(), good(), setOf(0, one(1, 1)), setOf(0, one(10000, 1)), setOf(api.MaxTime, slices.Repeat([]api.Task{one(10000, 1)}, api.MaxTasks)...)}
	for _, s := range sets {
		for i := range s.Tasks {
			for _, block := range append([]int64{top}, wrong...) {
				wantWith(t, s, i, block, limit)
			}
		}
		wantTold(t, s, 0, 1, 2, 500, 10000, top/2, top-900, top-100, top-1, top)
	}
	wantWith(t, setOf(0, one(10000, 1)), 0, 1, accept(2))
	wantWith(t, setOf(0, one(10000, 1)), 0, 9999, accept(10000))
	wantWith(t, setOf(0, one(10000, 1)), 0, 10000, miss(10001))
}

// There is no bound where the processor is busy for longer than Top, though the tasks leave time; at just Top there is one.
func TestP12_1PastTop(t *testing.T) {
	loading := setOf(1, touches(one(10000, 1), all, 0), touches(one(10000, 10), all, all))
	for _, x := range []struct {
		s     api.Set
		i     int
		block int64
		r     int64
	}{
		{setOf(0, one(10000, 1)), 0, top - 100, top - 99}, {setOf(0, one(2, 1)), 0, top / 2, top/2 + 1}, {setOf(0, one(5, 4)), 0, top / 5, top/5 + 4},
		{setOf(0, one(1000, 999)), 0, 1000, 1999}, {setOf(0, one(10000, 9999)), 0, 100, 10099},
		{setOf(0, one(1000, 1), one(10000, 1)), 1, top - 1100, top - 99}, {setOf(0, one(10, 9), one(1000, 99)), 1, 1000, 10990},
		{loading, 1, top - 7500, top - 990}, {setOf(0, slices.Repeat([]api.Task{one(10000, 1000)}, 8)...), 7, top - 800000, 670000},
	} {
		if n, ok := active.Of(x.s, x.i, x.block); n != top || !ok {
			t.Errorf("%d, %d in %+v: busy for %d, %t", x.i, x.block, x.s, n, ok)
		}
		b, _ := told(x.s, x.i, x.block)
		if b != miss(x.r) {
			t.Errorf("%d, %d in %+v: %v", x.i, x.block, x.s, b)
		}
		wantWith(t, x.s, x.i, x.block+1, limit)
		wantTold(t, x.s, x.block-1, x.block, x.block+1)
	}
}

// What is busy for one job alone, for just T, for one tick more, and for many jobs.
func TestP12_1Jobs(t *testing.T) {
	for _, x := range []struct {
		s           api.Set
		i           int
		block       int64
		busy        int64
		b           bound
		jobs, first int // how many jobs there are, and the first of those that take longest
	}{
		{example(), 0, 0, 2, accept(2), 1, 0}, {example(), 0, 3, 5, accept(5), 1, 0}, {example(), 0, 4, 8, miss(6), 2, 0}, {example(), 0, 299999, 500000 - 1, miss(300001), 100000, 0},
		{setOf(0, one(6, 6)), 0, 0, 6, accept(6), 1, 0}, {setOf(0, one(1, 1)), 0, 0, 1, accept(1), 1, 0}, {setOf(0, one(6, 5)), 0, 1, 6, accept(6), 1, 0},
		{setOf(0, one(6, 5)), 0, 2, 12, miss(7), 2, 0}, {setOf(0, one(6, 5)), 0, 3, 18, miss(8), 3, 0}, {setOf(0, one(6, 1)), 0, 6, 8, miss(7), 2, 0},
		{setOf(0, one(10, 2), one(7, 3)), 1, 0, 5, accept(5), 1, 0}, {setOf(0, one(10, 2), one(7, 3)), 1, 2, 7, accept(7), 1, 0}, {setOf(0, one(10, 2), one(7, 3)), 1, 3, 13, miss(8), 2, 0},
		{setOf(0, one(4, 2), one(6, 3)), 1, 0, 12, miss(7), 2, 0}, {setOf(0, one(3, 1), one(6, 4)), 1, 0, 6, accept(6), 1, 0}, {setOf(0, one(3, 1), one(7, 4)), 1, 1, 14, miss(8), 2, 0},
		{setOf(2, touches(one(10, 2), 3, 0), one(20, 3), touches(due(one(50, 4, 4), 30), 6, 6)), 2, 2, 28, accept(28), 1, 0},
		{setOf(0, one(18, 10), one(28, 12)), 1, 1, 195, miss(37), 7, 1}, {setOf(0, one(13, 5), one(23, 14)), 1, 0, 91, miss(26), 4, 2}, {setOf(0, one(23, 14), one(20, 7)), 1, 0, 91, miss(24), 5, 3},
		{later(), 1, 0, 694, miss(118), 7, 4}, {later(), 0, 0, 26, accept(26), 1, 0}, {setOf(0, one(31, 16), one(29, 14)), 1, 1, 899, miss(45), 31, 14},
		{setOf(0, one(25, 14), one(16, 7)), 1, 1, 400, miss(30), 25, 10},
	} {
		if n, ok := active.Of(x.s, x.i, x.block); n != x.busy || !ok {
			t.Errorf("%d, %d in %+v: busy for %d, %t, want %d", x.i, x.block, x.s, n, ok, x.busy)
		}
		if jobs, first := firstLongest(t, x.s, x.i, x.block, x.b.r); jobs != x.jobs || first != x.first {
			t.Errorf("%d, %d in %+v: %d jobs, longest at %d", x.i, x.block, x.s, jobs, first)
		}
		wantWith(t, x.s, x.i, x.block, x.b)
		wantTold(t, x.s, x.block, x.block+1)
	}
}

// A bound that is just D, one more, and one less, whichever job is the first that takes longest.
func TestP12_1Deadline(t *testing.T) {
	for _, x := range []struct {
		s     api.Set
		i     int
		block int64
		r     int64
	}{
		{setOf(0, one(50, 7)), 0, 5, 12}, {setOf(0, one(50, 7)), 0, 42, 49}, {setOf(0, one(50, 7)), 0, 43, 50}, {setOf(0, one(50, 7)), 0, 44, 51}, {setOf(0, one(50, 7)), 0, 45, 52},
		{mixed(), 4, 0, 94}, {mixed(), 4, 7, 101}, {mixed(), 1, 32, 70}, {mixed(), 1, 33, 71}, {mixed(), 3, 100, 169},
		{setOf(0, one(13, 5), one(23, 14)), 1, 0, 26}, {later(), 1, 0, 118}, {setOf(0, one(23, 14), one(20, 7)), 1, 0, 24}, {setOf(0, one(31, 16), one(29, 14)), 1, 1, 45},
		{setOf(0, one(9999, 1), one(10000, 1)), 1, 9997, 9999}, {setOf(0, one(9999, 1), one(10000, 1)), 1, 9998, 10001}, {setOf(0, one(10000, 1)), 0, 9999, 10000},
	} {
		own := &x.s.Tasks[x.i]
		least := work(*own)
		for _, own.D = range []int64{least, least + 1, x.r - 2, x.r - 1, x.r, x.r + 1, own.T - 1, own.T} {
			if least <= own.D && own.D <= own.T {
				wantWith(t, x.s, x.i, x.block, judged(x.r, own.D))
			}
		}
	}
	for d := int64(2); d <= 20; d++ {
		wantOf(t, setOf(0, due(one(20, 2), d), one(30, 9)), 0, judged(10, d))
	}
}

// What a task ahead makes others load again, it makes all load that are lower than it: those ahead of i, i, and those below i.
func TestP12_1Loading(t *testing.T) {
	for i := range api.MaxTasks {
		for j := range api.MaxTasks {
			for needs := range api.MaxTasks {
				l := slices.Repeat([]api.Task{one(1000, 2)}, api.MaxTasks)
				l[needs] = touches(l[needs], 1<<9, 1<<9)
				l[j] = touches(l[j], l[j].ECB|1<<9|1, l[j].UCB)
				n, stands := 2*int64(i+1), int64(0)
				if j < i && needs > j {
					n += 7
				}
				if i < api.MaxTasks-1 {
					stands = 1
				}
				if needs > i {
					stands += 7
				}
				wantWith(t, setOf(7, l...), i, 0, accept(n))
				wantOf(t, setOf(7, l...), i, accept(n+stands))
			}
		}
	}
}

// Each Reload at an edge, with no cache set up to all of them.
func TestP12_1Reload(t *testing.T) {
	for n := range int64(api.Sets + 1) {
		x := uint64(1)<<n - 1 // a shift by 64 leaves nothing, and so all
		for _, reload := range []int64{0, 1, 2, 100, 9999, api.MaxTime} {
			s := setOf(reload, touches(one(10000, 3), all, 0), touches(one(10000, 4), x, x))
			wantWith(t, s, 0, 0, accept(3))
			wantOf(t, s, 0, judged(6+reload*n, 10000))
			b := limit
			if 7+reload*n <= 10000 {
				b = accept(7 + reload*n)
			}
			wantWith(t, s, 1, 0, b)
			wantOf(t, s, 1, b)
		}
	}
	long := setOf(api.MaxTime, touches(one(10000, 10000), all, all), touches(one(10000, 10000), all, all))
	wantWith(t, long, 1, 0, limit)
	wantWith(t, long, 0, 0, accept(10000))
	wantWith(t, long, 0, 1, limit)
	wantOf(t, long, 0, limit)
	long.Tasks[0].Regions[0] = 1
	wantOf(t, long, 0, miss(650000))
	for reload := range int64(api.MaxTime + 1) {
		s := setOf(reload, touches(one(10000, 1), 1, 0), touches(one(10000, 1), 1, 1))
		b := limit
		if 2+reload <= 10000 {
			b = accept(2 + reload)
		}
		wantWith(t, s, 1, 0, b)
		wantOf(t, s, 1, b)
		wantOf(t, s, 0, judged(1+reload, 10000))
	}
}

// There is no bound where the tasks ask for as much as there is time, or for more; without a block as much may do.
func TestP12_1NoTimeLeft(t *testing.T) {
	for _, x := range []struct {
		s api.Set
		b bound // of the last task, at block 0
	}{
		{setOf(0, one(1, 1)), accept(1)}, {setOf(0, one(7, 7)), accept(7)}, {setOf(0, one(10000, 10000)), accept(10000)},
		{setOf(0, one(2, 1), one(4, 2)), accept(4)}, {setOf(0, one(2, 1), one(3, 1), one(6, 1)), accept(6)}, {setOf(0, one(3, 1), one(5, 2), one(15, 4)), accept(15)},
		{setOf(0, one(2, 1), one(4, 1), one(8, 2)), accept(8)}, {setOf(0, one(4, 2), one(6, 3)), miss(7)},
		{setOf(9998, touches(one(10000, 1), 1, 0), touches(one(10000, 1), 1, 1)), accept(10000)},
		{setOf(1, touches(one(4, 1), 3, 0), touches(one(8, 1), 0, 0), touches(one(8, 1), 3, 3)), accept(8)},
		{setOf(0, one(1, 1), one(10000, 1)), limit}, {setOf(0, one(2, 1), one(3, 2)), limit}, {setOf(0, one(10000, 9000), one(10000, 1001)), limit},
		{setOf(9, touches(one(10, 1), 1, 0), touches(one(10000, 1), 1, 1)), limit},
		{setOf(9999, touches(one(10000, 1), 1, 0), touches(one(10000, 1), 1, 1)), limit},
		{setOf(1, touches(one(2, 1), 1, 0), one(9, 1), touches(one(9, 1), 1, 1)), limit},
		{setOf(api.MaxTime, slices.Repeat([]api.Task{touches(one(1, 1), all, all)}, 8)...), limit},
	} {
		last := len(x.s.Tasks) - 1
		wantWith(t, x.s, last, 0, x.b)
		wantOf(t, x.s, last, x.b)
		for _, block := range []int64{1, 2, 100, top} {
			wantWith(t, x.s, last, block, limit)
		}
		wantTold(t, x.s, 0, 1)
	}
	full := setOf(0, one(7, 7), one(10000, 2))
	wantOf(t, full, 0, limit)
	full.Tasks[1].Regions[0] = 1
	wantOf(t, full, 0, accept(7))
}

// Of goes by what stands in the way most, of those below in each mode; of the last task, and of tasks that none stands in the way of, by 0.
func TestP12_1Below(t *testing.T) {
	high, own := one(1000, 20), touches(one(1000, 4, 9, 2), 0b111, 0b101)
	for _, x := range []struct {
		below []api.Task
		most  int64
	}{
		{nil, 0}, {[]api.Task{one(1000, 1)}, 0}, {[]api.Task{one(1000, 2)}, 1}, {[]api.Task{one(1000, 4, 9, 2)}, 8}, {[]api.Task{own}, 18},
		{[]api.Task{floats(own, 0)}, 0}, {[]api.Task{floats(own, 1)}, 1}, {[]api.Task{floats(own, 23)}, 23}, {[]api.Task{floats(own, 24)}, 24}, {[]api.Task{floats(own, 25)}, 24}, {[]api.Task{floats(own, api.MaxTime)}, 24},
		{[]api.Task{threshs(own, 0)}, 24}, {[]api.Task{threshs(own, 1)}, 0}, {[]api.Task{threshs(one(1000, 1), 0)}, 0},
		{[]api.Task{own, one(1000, 19), one(1000, 5)}, 18}, {[]api.Task{own, one(1000, 20), one(1000, 5)}, 19}, {[]api.Task{one(1000, 5), one(1000, 5), own}, 18},
		{[]api.Task{own, floats(own, 20), threshs(own, 2)}, 20}, {[]api.Task{own, floats(own, 20), threshs(own, 0)}, 24}, {[]api.Task{threshs(own, 1), threshs(own, 2), threshs(own, 3)}, 0},
	} {
		s := setOf(5, append([]api.Task{high}, x.below...)...)
		for d := int64(20); d < 50; d++ {
			s.Tasks[0].D = d
			wantOf(t, s, 0, judged(20+x.most, d))
		}
	}
	// the same set stands in the way of each of its tasks in another way
	s := setOf(5, one(900, 20), one(800, 30), threshs(one(700, 40), 1), one(600, 10), floats(own, 7))
	for i, r := range []int64{20 + 29, 20 + 30 + 39, 20 + 30 + 40 + 9, 20 + 30 + 40 + 10 + 7, 20 + 30 + 40 + 10 + 15} {
		wantOf(t, s, i, accept(r))
	}
}

// Neither names, the deadlines of others, nor, by a block, modes are of any weight; D has none for how long it takes.
func TestP12_1NothingElse(t *testing.T) {
	plain := mixed()
	for mode := range 3 {
		for _, n := range []int64{0, 1, 40, api.MaxTime} {
			s := mixed()
			for i := range s.Tasks {
				s.Tasks[i].Name, s.Tasks[i].D = string("zmacb"[i]), work(s.Tasks[i])+n%7
				switch s.Tasks[i].Mode, s.Tasks[i].Q, s.Tasks[i].Theta = mode, 0, 0; mode {
				case api.Float:
					s.Tasks[i].Q = n
				case api.Thresh:
					s.Tasks[i].Theta = min(int(n), i)
				}
			}
			for i, r := range []int64{27, 38, 50, 59, 94} {
				wantWith(t, plain, i, 0, accept(r))
				wantWith(t, s, i, 0, judged(r, s.Tasks[i].D))
			}
			wantTold(t, s, 0, 1, 873, 50000)
		}
	}
}

// All sets of up to three short tasks, tick by tick.
func TestP12_1AllSmall(t *testing.T) {
	ask := func(l ...api.Task) {
		s := setOf(1, l...)
		i := len(l) - 1
		for block := range int64(4) {
			b, _ := told(s, i, block)
			if b != limit && byTicks(s, i, block) != b {
				t.Fatalf("%d, %d in %+v: %v is not so tick by tick", i, block, s, b)
			}
			wantWith(t, s, i, block, b)
		}
	}
	var l []api.Task
	for period := int64(1); period < 6; period++ {
		for c := int64(1); c <= period; c += 2 {
			l = append(l, one(period, c), touches(one(period, c), 1, 1))
		}
	}
	for _, a := range l {
		ask(a)
		for _, b := range l {
			ask(a, b)
			for _, c := range l {
				ask(a, b, c)
			}
		}
	}
}

// pick is one of several numbers, by chance.
func pick(r *rand.Rand, l ...int64) int64 { return l[r.Intn(len(l))] }

// anyTask is a task that may be at a place, and asks for about a part of the time.
func anyTask(r *rand.Rand, at int, part float64) api.Task {
	most := pick(r, 20, 300, api.MaxTime)
	x := one(1 + r.Int63n(most))
	left := min(x.T, 1+int64(2*r.Float64()*part*float64(x.T)))
	for range r.Intn(api.MaxRegions) {
		if left > 1 {
			n := 1 + r.Int63n(left-1)
			x.Regions = append(x.Regions, n)
			left -= n
		}
	}
	x.Regions = append(x.Regions, left)
	x.D = pick(r, x.T, work(x), work(x)+r.Int63n(x.T-work(x)+1))
	switch x.Mode = r.Intn(3); x.Mode {
	case api.Float:
		x.Q = pick(r, 0, 1, work(x), api.MaxTime)
	case api.Thresh:
		x.Theta = r.Intn(at + 1)
	}
	x.ECB = []uint64{0, 1, 1 << 63, all, r.Uint64(), r.Uint64() & r.Uint64() & r.Uint64()}[r.Intn(6)]
	x.UCB = x.ECB & []uint64{0, all, r.Uint64(), r.Uint64() & r.Uint64() & r.Uint64()}[r.Intn(4)]
	return x
}

// anySet is a set that may be, often with time left.
func anySet(r *rand.Rand) api.Set {
	var l []api.Task
	n := 1 + r.Intn(api.MaxTasks)
	part := []float64{0.05, 0.5, 0.9, 1.2}[r.Intn(4)] / float64(n)
	for at := range n {
		l = append(l, anyTask(r, at, part))
	}
	return setOf(pick(r, 0, 0, 1, 2, 5, r.Int63n(api.MaxTime+1), api.MaxTime), l...)
}

// anyBlock is a block that may be.
func anyBlock(r *rand.Rand) int64 { return r.Int63n(pick(r, 3, 60, 3000, top+1)) }

func TestP12_1ByChance(t *testing.T) {
	r := rand.New(rand.NewSource(121))
	met := map[int]int{}
	for range 700 {
		s := anySet(r)
		block := anyBlock(r)
		wantTold(t, s, 0, block)
		for i := range s.Tasks {
			_, how := With(s, i, block)
			met[how]++
		}
	}
	if met[api.Accept] < 300 || met[api.Miss] < 300 || met[api.Limit] < 300 || len(met) != 3 {
		t.Errorf("not enough of each: %v", met)
	}
}

// Sets of which a later job often takes longest.
func TestP12_1LaterByChance(t *testing.T) {
	r := rand.New(rand.NewSource(122))
	met := 0
	for range 20000 {
		s := setOf(r.Int63n(2), touches(one(8+r.Int63n(30), 1+r.Int63n(8)), 3, 0), one(8+r.Int63n(30), 1+r.Int63n(8)), touches(one(8+r.Int63n(30), 1+r.Int63n(8)), 1, 1))
		block := r.Int63n(4)
		b, _ := told(s, 2, block)
		wantWith(t, s, 2, block, b)
		if b == limit {
			continue
		}
		if _, first := firstLongest(t, s, 2, block, b.r); first > 0 {
			met++
		}
	}
	if met < 400 {
		t.Errorf("only %d with a later one", met)
	}
}

// good is a set that may be, in which each task has a bound at each block that is not too long.
func good() api.Set {
	return setOf(4, touches(one(900, 3, 9), 0b111, 0b1), touches(one(700, 7), 0b11, 0b11), touches(one(800, 2, 8), 0b1, 0b1))
}

// spoiled are sets that may not be, each by one fault, in a task of each place or in the set itself.
func spoiled() []api.Set {
	var l []api.Set
	whole := func(change func(s *api.Set)) {
		s := good()
		change(&s)
		l = append(l, s)
	}
	each := func(change func(t *api.Task)) {
		for i := range 3 {
			whole(func(s *api.Set) { change(&s.Tasks[i]) })
		}
	}
	for _, n := range []int64{-1, api.MaxTime + 1, math.MinInt64, math.MaxInt64, -1 << 32, 1 << 32} {
		whole(func(s *api.Set) { s.Reload = n })
		each(func(t *api.Task) { t.T = n })
		each(func(t *api.Task) { t.D = n })
		each(func(t *api.Task) { t.T, t.D = n, n })
		each(func(t *api.Task) { t.Mode, t.Q = api.Float, n })
		each(func(t *api.Task) { t.Mode, t.Theta = api.Thresh, int(n) })
		each(func(t *api.Task) { t.Mode = int(n) })
		each(func(t *api.Task) { t.Regions = []int64{n} })
		each(func(t *api.Task) { t.Regions = []int64{n, 1} })
	}
	for _, name := range []string{"", "A", "9", "task", " a", "a ", "a#", "é", "\xff", "abcdefghijklm", strings.Repeat("a", 1<<10)} {
		each(func(t *api.Task) { t.Name = name })
	}
	each(func(t *api.Task) { t.Regions = nil })
	each(func(t *api.Task) { t.Regions = []int64{} })
	each(func(t *api.Task) { t.Regions = []int64{0} })
	each(func(t *api.Task) { t.Regions = slices.Repeat([]int64{1}, api.MaxRegions+1) })
	each(func(t *api.Task) { t.T, t.D = 0, 0 })
	each(func(t *api.Task) { t.D = 1 })
	each(func(t *api.Task) { t.T-- })
	each(func(t *api.Task) { t.Q = 1 })
	each(func(t *api.Task) { t.Theta = 1 })
	each(func(t *api.Task) { t.Mode, t.Theta = api.Thresh, 3 })
	each(func(t *api.Task) { t.Mode = 3 })
	each(func(t *api.Task) { t.UCB = 0b1000 })
	each(func(t *api.Task) { t.UCB = all })
	whole(func(s *api.Set) { s.Tasks[2].Name = s.Tasks[0].Name })
	whole(func(s *api.Set) { s.Tasks[2].Name = s.Tasks[1].Name })
	for _, n := range []int{api.MaxTasks + 1, api.MaxTasks + 2, 64, 65} {
		l = append(l, setOf(4, slices.Repeat([]api.Task{touches(one(900, 9), all, all)}, n)...))
	}
	return append(l, api.Set{}, setOf(4), api.Set{Reload: 4, Tasks: []api.Task{}}, api.Set{Reload: 4, Tasks: good().Tasks[:0]}, api.Set{Tasks: make([]api.Task, 3)})
}

// Of a set that may not be there is nothing, whatever the priority and the block, whichever task is at fault.
func TestP12_1SetsThatMayNotBe(t *testing.T) {
	for _, s := range spoiled() {
		if task.All(s) {
			t.Fatalf("a set that may be: %+v", s)
		}
		for i := range len(s.Tasks) + 2 {
			wantNothing(t, s, i)
		}
		wantNothing(t, s, odd...)
	}
	for i, r := range []int64{12, 27, 41} {
		wantWith(t, good(), i, 0, accept(r))
	}
	for i, r := range []int64{26, 38, 41} {
		wantOf(t, good(), i, accept(r))
	}
}

// Of very many tasks there is nothing, and it is told soon.
func TestW1VeryMany(t *testing.T) {
	s := setOf(4, slices.Repeat([]api.Task{one(900, 9)}, 1<<16)...)
	wantNothing(t, s, append([]int{0, 1, 1<<16 - 2, 1<<16 - 1, 1 << 16}, odd...)...)
}

// Very many jobs, each with many arrivals ahead of it: it ends, too, and it is no other answer.
func TestW1VeryManyJobs(t *testing.T) {
	for _, s := range []api.Set{setOf(0, one(2, 1)), setOf(0, one(10, 2), one(10, 2), one(2, 1)), setOf(0, one(1000, 100), one(999, 90), one(998, 90), one(2, 1)), setOf(0, one(10000, 4900), one(2, 1))} {
		i := len(s.Tasks) - 1
		for block := top; block > 0; block /= 2 {
			b, _ := told(s, i, block)
			wantWith(t, s, i, block, b)
		}
	}
}

// finishes is each f of a task, by fix, at a block by which the processor is busy for a length.
func finishes(t *testing.T, s api.Set, i int, block, length int64) []int64 {
	t.Helper()
	x, ahead := s.Tasks[i], active.Loads(s, i)
	var l []int64
	for q := int64(0); q*x.T < length; q++ {
		f, ok := fix.Least(block+(q+1)*task.Work(x), ahead)
		if !ok || f > length || f <= q*x.T {
			t.Fatalf("%d, %d in %+v: f %d of job %d, %t, with %d in all", i, block, s, f, q, ok, length)
		}
		l = append(l, f)
	}
	return l
}

// firstLongest is how many jobs there are, and which one is the first that takes just as long as told.
func firstLongest(t *testing.T, s api.Set, i int, block, r int64) (jobs, first int) {
	t.Helper()
	length, _ := active.Of(s, i, block)
	l := finishes(t, s, i, block, length)
	return len(l), slices.IndexFunc(l, func(f int64) bool {
		r += s.Tasks[i].T
		return f == r-s.Tasks[i].T
	})
}

// There is each f, at most as long as the processor is busy; none is later than the bound, and that is so of one at least. The last f is that length itself.
func TestP12_2EachFinish(t *testing.T) {
	r := rand.New(rand.NewSource(123))
	met := 0
	sets := []api.Set{example(), later(), mixed(), good(), setOf(0, one(2, 1)), setOf(0, one(4, 2), one(6, 3))}
	for range 600 {
		sets = append(sets, anySet(r))
	}
	for _, s := range sets {
		for i := range s.Tasks {
			block := anyBlock(r)
			length, ok := active.Of(s, i, block)
			if !ok {
				wantWith(t, s, i, block, limit)
				continue
			}
			l, longest := finishes(t, s, i, block, length), int64(0)
			for q, f := range l {
				longest = max(longest, f-int64(q)*s.Tasks[i].T)
			}
			wantWith(t, s, i, block, judged(longest, s.Tasks[i].D))
			if _, told := told(s, i, block); told != length || l[len(l)-1] != length {
				t.Fatalf("%d, %d in %+v: %d in all, %d, last f %d", i, block, s, length, told, l[len(l)-1])
			}
			met++
		}
	}
	if met < 1000 {
		t.Errorf("only %d found", met)
	}
}

// wantNoGreater asks for a bound that is at most r, as with more block it is r; and what is accepted with more block, is with less.
func wantNoGreater(t *testing.T, s api.Set, i int, block int64, more bound) {
	t.Helper()
	if r, how := With(s, i, block); how == api.Limit || r > more.r || r < 1 || how > more.how {
		t.Fatalf("With %d, %d in %+v: %d, %d, with more %v", i, block, s, r, how, more)
	}
}

// With less block r is no greater; and there is a bound, if there is one with more.
func TestP12_2LessBlock(t *testing.T) {
	r := rand.New(rand.NewSource(124))
	met := 0
	for range 500 {
		s := anySet(r)
		for i := range s.Tasks {
			block := anyBlock(r)
			n, how := With(s, i, block)
			if how == api.Limit {
				continue
			}
			met++
			for less := block - 1; less >= 0; less -= 1 + block/9 {
				wantNoGreater(t, s, i, less, bound{n, how})
			}
			wantNoGreater(t, s, i, 0, bound{n, how})
			wantNoGreater(t, s, i, block/2, bound{n, how})
		}
	}
	if met < 1000 {
		t.Errorf("only %d found", met)
	}
}

// Block by block, up to where there is no bound any more, it rises; behind that there is none at all.
func TestP12_2EachBlock(t *testing.T) {
	for _, s := range []api.Set{example(), mixed(), good(), later(), setOf(0, one(1000, 999)), setOf(0, one(10, 9), one(1000, 99))} {
		for i := range s.Tasks {
			last := bound{0, api.Accept}
			for block := range int64(1500) {
				r, how := With(s, i, block)
				if how != api.Limit && (r <= last.r || r <= block) || how < last.how {
					t.Fatalf("With %d, %d in %+v: %d, %d, with less %v", i, block, s, r, how, last)
				}
				last = bound{r, how}
			}
		}
	}
}

// spared is a set with room behind its lists' ends, and all of that room.
func spared(s api.Set) (api.Set, []api.Task, [][]int64) {
	tasks := append(slices.Clone(s.Tasks), touches(one(9000, 900), all, all), touches(one(8000, 800), all, all))
	tasks[len(s.Tasks)].Name, tasks[len(s.Tasks)+1].Name = "spare", "room"
	var rows [][]int64
	for i := range tasks {
		row := append(slices.Clone(tasks[i].Regions), 7777, 8888)
		rows = append(rows, row)
		tasks[i].Regions = row[:len(row)-2]
	}
	return api.Set{Reload: s.Reload, Tasks: tasks[:len(s.Tasks)]}, tasks, rows
}

// What is handed in is as it was, its lists' spare room too; and that room is no part of the set.
func TestW6HandedIn(t *testing.T) {
	r := rand.New(rand.NewSource(126))
	sets := spoiled()
	for range 500 {
		sets = append(sets, anySet(r))
	}
	for _, s := range sets {
		x, tasks, rows := spared(s)
		_, wantTasks, wantRows := spared(s)
		for i := -1; i < min(len(s.Tasks), api.MaxTasks)+3; i++ {
			n, how := Of(s, i)
			wantOf(t, x, i, bound{n, how})
			for _, block := range []int64{-1, 0, 9, 500} {
				n, how = With(s, i, block)
				wantWith(t, x, i, block, bound{n, how})
			}
		}
		if !reflect.DeepEqual(tasks, wantTasks) || !reflect.DeepEqual(rows, wantRows) || x.Reload != s.Reload {
			t.Fatalf("%+v has changed: %+v, %v", s, tasks, rows)
		}
	}
}

// An answer hangs on nothing that was asked ahead of it.
func TestW2AskedAgain(t *testing.T) {
	r := rand.New(rand.NewSource(120))
	sets := []api.Set{example(), mixed(), {}, good(), later(), setOf(-1, one(5, 1), one(9, 2))}
	for range 5 {
		sets = append(sets, anySet(r))
	}
	for _, s := range sets {
		for i := -1; i < api.MaxTasks+1; i++ {
			n, how := With(s, i, 30)
			ofN, ofHow := Of(s, i)
			for _, other := range sets {
				for k := -1; k < len(other.Tasks)+1; k++ {
					With(other, k, 31)
					Of(other, k)
				}
				wantWith(t, s, i, 30, bound{n, how})
				wantOf(t, s, i, bound{ofN, ofHow})
			}
		}
	}
}
