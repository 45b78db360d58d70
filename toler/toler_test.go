package toler

import (
	"fmt"
	"math"
	"math/big"
	"math/rand"
	"reflect"
	"slices"
	"strings"
	"testing"

	"taskmaster/admit"
	"taskmaster/api"
	"taskmaster/block"
	"taskmaster/resp"
	"taskmaster/task"
)

const (
	all = math.MaxUint64
	top = int64(api.Top)
)

// odd are priorities that no set has a task of.
var odd = []int{-1, -2, -8, math.MinInt, math.MinInt + 1, math.MaxInt, math.MaxInt - 1, math.MinInt32, math.MaxInt32, -1 << 32, 1 << 32, 1 << 40, api.MaxTasks, api.MaxTasks + 1, 64}

// none is what a task bears that is late without any block.
const none = -1

// one is a task of a period, without a name.
func one(period int64, regions ...int64) api.Task {
	return api.Task{T: period, D: period, Regions: regions}
}

// due is a task that is to be done within a shorter time.
func due(t api.Task, deadline int64) api.Task {
	t.D = deadline
	return t
}

// floats and threshs are a task in another mode.
func floats(t api.Task, q int64) api.Task {
	t.Mode, t.Q = api.Float, q
	return t
}
func threshs(t api.Task, theta int) api.Task {
	t.Mode, t.Theta = api.Thresh, theta
	return t
}

// touches is a task that touches cache sets, and needs some of them again.
func touches(t api.Task, ecb, ucb uint64) api.Task {
	t.ECB, t.UCB = ecb, ucb
	return t
}

// setOf is a set of tasks, which have names by their places.
func setOf(reload int64, l ...api.Task) api.Set {
	s := api.Set{Reload: reload, Tasks: slices.Clone(l)}
	for i := range s.Tasks {
		s.Tasks[i].Name = fmt.Sprint("t", i)
	}
	return s
}

// example is the chapter's: one task, T 5, D 5, 2 ticks.
func example() api.Set { return setOf(0, one(5, 2)) }

// later is a set whose last task is late without any block: not its first job, but its fifth.
func later() api.Set { return setOf(0, one(70, 26), one(100, 62)) }

// mixed is a set in which what is ahead makes others load something, or nothing, whose periods are in no order, and which has each mode.
func mixed() api.Set {
	return setOf(3, touches(one(900, 20, 7), 0b1011, 0b10), touches(one(70, 5), 0b100, 0b100), threshs(touches(one(9000, 4, 4, 4), 0b11, 0b1), 1),
		floats(one(200, 9), 6), touches(one(1000, 10, 8, 12), 0b1001, 0b1000))
}

// eight is a set of as many tasks as may be, of ten ticks each, of which each one bears as many ticks as told.
func eight(l ...int64) api.Set {
	s := setOf(0, slices.Repeat([]api.Task{one(1000, 10)}, api.MaxTasks)...)
	for i, n := range l {
		s.Tasks[i].D = int64(10*i) + 10 + n
	}
	return s
}

// wantOf asks for what one task bears.
func wantOf(t *testing.T, s api.Set, i int, want int64) {
	t.Helper()
	if n, ok := Of(s, i); n != max(want, 0) || ok != (want != none) {
		t.Fatalf("Of %d in %+v: %d, %t, want %d", i, s, n, ok, want)
	}
}

// wantAll asks for what all tasks bear.
func wantAll(t *testing.T, s api.Set, want ...int64) {
	t.Helper()
	if len(want) != len(s.Tasks) {
		t.Fatalf("%d tasks, %d numbers", len(s.Tasks), len(want))
	}
	for i, n := range want {
		wantOf(t, s, i, n)
	}
	wantNothing(t, s, -1, len(s.Tasks))
	l, ok := All(s)
	if slices.Contains(want, none) {
		want = nil
	}
	if ok != (want != nil) || !slices.Equal(l, want) {
		t.Fatalf("All of %+v: %v, %t, want %v", s, l, ok, want)
	}
}

// wantNothing asks for 0, false, of priorities.
func wantNothing(t *testing.T, s api.Set, l ...int) {
	t.Helper()
	for _, i := range l {
		if n, ok := Of(s, i); n != 0 || ok {
			t.Fatalf("Of %d in %d tasks: %d, %t, want 0, false", i, len(s.Tasks), n, ok)
		}
	}
}

// wantNoSet asks for nothing at all of a set that may not be.
func wantNoSet(t *testing.T, s api.Set) {
	t.Helper()
	if task.All(s) {
		t.Fatalf("a set that may be: %+v", s)
	}
	for i := range min(len(s.Tasks), api.MaxTasks) + 2 {
		wantNothing(t, s, i)
	}
	wantNothing(t, s, len(s.Tasks)-1, len(s.Tasks))
	wantNothing(t, s, odd...)
	if l, ok := All(s); len(l) != 0 || ok {
		t.Fatalf("All of %d tasks: %v, %t, want nil, false", len(s.Tasks), l, ok)
	}
}

// digits is the cache sets, as they are written.
func digits(x uint64) string { return fmt.Sprintf("%064b", x) }

// work is the ticks of a task, summed here.
func work(x api.Task) int64 {
	n := int64(0)
	for _, r := range x.Regions {
		n += r
	}
	return n
}

// comes is what comes to the processor: of what is ahead a job's work, and one Reload for each cache set that it takes from whatever is lower than it; behind them the task itself.
func comes(s api.Set, i int) []api.Load {
	var l []api.Load
	for j := 0; j < i; j++ {
		c, taken := work(s.Tasks[j]), map[int]int{}
		for _, lower := range s.Tasks[j+1:] {
			needed := digits(lower.UCB)
			for k, d := range digits(s.Tasks[j].ECB) {
				if d == '1' && needed[k] == '1' {
					taken[k]++
				}
			}
		}
		l = append(l, api.Load{T: s.Tasks[j].T, C: c + s.Reload*int64(len(taken))})
	}
	return append(l, api.Load{T: s.Tasks[i].T, C: work(s.Tasks[i])})
}

// isFull tells whether no time is left: in each time from 1 on more comes than it is long.
func isFull(l []api.Load, block int64) bool {
	part := new(big.Rat)
	for _, x := range l {
		part.Add(part, big.NewRat(x.C, x.T))
	}
	more := part.Cmp(big.NewRat(1, 1))
	return more > 0 || more == 0 && block > 0
}

// desk is what waits for the processor: what is ahead and the block, and behind them the task's own jobs, first come, first done.
type desk struct {
	now, first int64
	came, left []int64 // of each own job
	longest    int64   // of those that are done
}

// come is a job of the task that comes.
func (d *desk) come(c int64) { d.came, d.left = append(d.came, d.now), append(d.left, c) }

// do works for some ticks, or until nothing is left.
func (d *desk) do(ticks int64) {
	n := min(ticks, d.first)
	d.first, d.now, ticks = d.first-n, d.now+n, ticks-n
	for ticks > 0 && len(d.left) > 0 {
		n = min(ticks, d.left[0])
		d.left[0], d.now, ticks = d.left[0]-n, d.now+n, ticks-n
		if d.left[0] == 0 {
			d.longest = max(d.longest, d.now-d.came[0])
			d.came, d.left = d.came[1:], d.left[1:]
		}
	}
}

// idle tells whether nothing is left.
func (d *desk) idle() bool { return d.first == 0 && len(d.left) == 0 }

// told is how a task of a set that may be is judged: by a processor that works, from one arrival to the next one, until for the first time nothing is left.
func told(s api.Set, i int, block int64) (how int) {
	l := comes(s, i)
	if isFull(l, block) {
		return api.Limit
	}
	d, next := &desk{first: block}, make([]int64, len(l))
	for {
		for k, x := range l {
			switch {
			case next[k] != d.now:
				continue
			case k == i:
				d.come(x.C)
			default:
				d.first += x.C
			}
			next[k] += x.T
		}
		d.do(slices.Min(next) - d.now)
		switch {
		case d.now > top || !d.idle() && d.now == top:
			return api.Limit
		case d.idle() && d.longest <= s.Tasks[i].D:
			return api.Accept
		case d.idle():
			return api.Miss
		}
	}
}

// left is how much is left of a time when all that comes is done.
func left(l []api.Load, until int64) int64 {
	n := until
	for _, x := range l {
		n -= x.C * ((until + x.T - 1) / x.T)
	}
	return n
}

// most is what a task of a set that may be bears: the most that is left of any time up to D for a block; or none. A longer time leaves more until something comes: so D is asked, and the times at which something comes.
func most(s api.Set, i int) int64 {
	l, d := comes(s, i), s.Tasks[i].D
	n := left(l, d)
	for _, x := range l {
		for until := x.T; until < d; until += x.T {
			n = max(n, left(l, until))
		}
	}
	return max(n, none)
}

// byBlocks is what a task bears: of all blocks from 0 to D the greatest one by which it is told as accepted; and it is so with each less one.
func byBlocks(t *testing.T, s api.Set, i int) int64 {
	t.Helper()
	n := int64(none)
	for block := range s.Tasks[i].D + 1 {
		if told(s, i, block) == api.Accept {
			if n != block-1 {
				t.Fatalf("%d, %d in %+v: accepted, with less it is not", i, block, s)
			}
			n = block
		}
	}
	return n
}

// wantMost asks for what the chapter asks, of each task, and of all.
func wantMost(t *testing.T, s api.Set) []int64 {
	t.Helper()
	if !task.All(s) {
		t.Fatalf("a set that may not be: %+v", s)
	}
	var l []int64
	for i := range s.Tasks {
		l = append(l, most(s, i))
	}
	wantAll(t, s, l...)
	return l
}

func TestP14_1Example(t *testing.T) {
	wantAll(t, example(), 3)
	wantOf(t, example(), 0, 3)
	wantNothing(t, example(), 1, -1)
	wantNothing(t, example(), odd...)
	if n, how := resp.With(example(), 0, 3); n != 5 || how != api.Accept {
		t.Error(n, how)
	}
	if n, how := resp.With(example(), 0, 4); n != 6 || how != api.Miss {
		t.Error(n, how)
	}
}

// Sets of which it is reckoned by hand what they bear.
func TestP14_1ByHand(t *testing.T) {
	for _, x := range []struct {
		s    api.Set
		want []int64
	}{
		{setOf(0, one(5, 5)), []int64{0}}, {setOf(0, due(one(5, 2), 2)), []int64{0}}, {setOf(0, due(one(5, 2), 4)), []int64{2}}, {setOf(0, one(1, 1)), []int64{0}}, {setOf(0, one(2, 1)), []int64{1}},
		{setOf(0, one(10000, 1)), []int64{9999}}, {setOf(0, one(10000, 10000)), []int64{0}}, {setOf(0, due(one(10000, 1), 1)), []int64{0}}, {setOf(0, due(one(10000, 1), 9000)), []int64{8999}},
		{setOf(0, one(4, 2), one(6, 2)), []int64{2, 0}}, {setOf(0, one(4, 2), one(6, 3)), []int64{2, none}}, {later(), []int64{44, none}}, {setOf(0, one(70, 26), one(100, 48)), []int64{44, 0}}, {setOf(0, one(70, 26), one(100, 49)), []int64{44, none}},
		{setOf(0, one(4, 1), one(6, 2)), []int64{3, 2}}, {setOf(0, one(4, 1), due(one(6, 2), 5)), []int64{3, 1}}, {setOf(0, one(4, 1), due(one(6, 2), 4)), []int64{3, 1}}, {setOf(0, one(4, 1), due(one(6, 2), 3)), []int64{3, 0}}, {setOf(0, one(4, 1), due(one(6, 2), 2)), []int64{3, none}},
		{setOf(0, one(6, 2), one(4, 1)), []int64{4, 1}}, {setOf(0, one(6, 3), one(4, 1)), []int64{3, 0}}, {setOf(0, one(6, 4), one(4, 1)), []int64{2, none}}, {setOf(0, one(10, 2), due(one(20, 5), 18), due(one(100, 10), 90)), []int64{8, 9, 37}},
		{setOf(0, one(2, 1), one(3, 1), one(6, 1)), []int64{1, 0, 0}}, {setOf(0, one(2, 1), one(3, 1), due(one(6, 1), 5)), []int64{1, 0, none}}, {setOf(0, one(2, 1), one(3, 1), one(5, 1)), []int64{1, 0, none}},
		{setOf(0, one(3, 1), due(one(1000, 4), 7), one(1000, 4)), []int64{2, 0, 658}}, {mixed(), []int64{873, 32, 8013, 131, 772}}, {good(), []int64{888, 673, 748}}, {eight(9, 8, 7, 6, 5, 4, 3, 2), []int64{9, 8, 7, 6, 5, 4, 3, 2}},
	} {
		wantAll(t, x.s, x.want...)
		wantMost(t, x.s)
	}
}

// Sets of each size; of each priority that no task of theirs has there is nothing.
func TestP14_1Priorities(t *testing.T) {
	for n := 1; n <= api.MaxTasks; n++ {
		s := setOf(0, slices.Repeat([]api.Task{one(1000, 9)}, n)...)
		var want []int64
		for i := range n {
			want = append(want, 1000-9*int64(i+1))
		}
		wantAll(t, s, want...)
		for i := range n {
			for shift := 8; shift < 63; shift++ { // those that come back among its priorities, if cut to fewer digits
				wantNothing(t, s, i+1<<shift, i-1<<shift)
			}
			wantNothing(t, s, i+math.MinInt, -i-1)
		}
		wantNothing(t, s, n, n+1, 2*n, -n, -n-1)
		wantNothing(t, s, odd...)
	}
}

// What is told is of each task's own place: numbers that neither rise nor fall, in each order.
func TestP14_1InOrder(t *testing.T) {
	r := rand.New(rand.NewSource(140))
	for range 20 {
		var want []int64
		for range api.MaxTasks {
			want = append(want, r.Int63n(900))
		}
		s := eight(want...)
		wantAll(t, s, want...)
		for n := 1; n < api.MaxTasks; n++ {
			wantAll(t, setOf(0, s.Tasks[:n]...), want[:n]...)
		}
	}
}

// The highest task bears what its deadline leaves, and so at least 0; what it makes others load again does not count for itself.
func TestP14_1Highest(t *testing.T) {
	for _, period := range []int64{1, 2, 3, 50, 9999, api.MaxTime} {
		for _, c := range []int64{1, 2, period / 2, period - 1, period} {
			for _, d := range []int64{c, c + 1, period/2 + 1, period - 1, period} {
				if c < 1 || d < c || d > period {
					continue
				}
				x := touches(due(one(period, c), d), all, all)
				for _, n := range []int{1, 2, api.MaxTasks} {
					s := setOf(api.MaxTime, slices.Repeat([]api.Task{x}, n)...)
					wantOf(t, s, 0, d-c)
					wantMost(t, s)
				}
			}
		}
	}
}

// A task that bears just 0, and one that bears not even that, in each place: the highest bears 0 at least, as else its work is longer than its deadline.
func TestP14_1Nothing(t *testing.T) {
	for i := range api.MaxTasks {
		want := []int64{9, 99, 5, 899, 9, 77, 3, 12}
		want[i] = 0
		wantAll(t, eight(want...), want...)
		want[i] = none
		s := eight(want...)
		if i == 0 {
			wantNoSet(t, s)
			continue
		}
		wantAll(t, s, want...)
		s.Tasks[i].D -= 8 // its own work alone
		wantAll(t, s, want...)
		for k := 1; k < api.MaxTasks; k++ {
			want[k] = none
			wantAll(t, eight(want...), want...)
			want[k] = []int64{9, 99, 5, 899, 9, 77, 3, 12}[k]
			want[i] = none
		}
	}
}

// Of all tasks but the highest one none bears anything: All tells nothing of the one that does.
func TestP14_1OnlyHighest(t *testing.T) {
	for n := 2; n <= api.MaxTasks; n++ {
		for _, first := range []int64{9, 10} {
			s := setOf(0, slices.Repeat([]api.Task{due(one(10, 2), 2)}, n)...)
			s.Tasks[0].Regions, s.Tasks[0].D = []int64{first}, 10
			want := slices.Repeat([]int64{none}, n)
			want[0] = 10 - first
			wantAll(t, s, want...)
		}
	}
}

// limits is a set of two tasks that leave no time, or next to none, so that the second one bears nothing more than 0.
func limits() []api.Set {
	return []api.Set{setOf(0, one(2, 1), one(2, 1)), setOf(0, one(9999, 9998), one(10000, 1)), setOf(0, one(9999, 9990), one(10000, 9)), setOf(0, one(6, 3), one(6, 2, 1)), setOf(2, touches(one(5, 1), 1, 0), touches(one(10, 4), 1, 1))}
}

// next is how a task is judged with one more than it bears.
func next(t *testing.T, s api.Set, i int) int {
	t.Helper()
	n, ok := Of(s, i)
	_, how := resp.With(s, i, n)
	_, more := resp.With(s, i, n+1)
	if ok != (how == api.Accept) || more == api.Accept {
		t.Fatalf("Of %d in %+v: %d, %t, with that %d, with more %d", i, s, n, ok, how, more)
	}
	return more
}

// With one more, what comes is a Miss, or a Limit; where a task bears nothing it is so with 0, too.
func TestP14_1OneMore(t *testing.T) {
	for _, s := range limits() {
		wantOf(t, s, 1, 0)
		wantMost(t, s)
		if how := next(t, s, 1); how != api.Limit {
			t.Fatalf("%+v: %d", s, how)
		}
		s.Tasks[1].D = work(s.Tasks[1])
		wantOf(t, s, 1, none)
		if how := told(s, 1, 0); how != api.Miss {
			t.Fatalf("%+v: %d", s, how)
		}
		s.Tasks[1].D = s.Tasks[1].T
		s.Tasks[0].Regions = []int64{s.Tasks[0].T}
		wantOf(t, s, 0, 0)
		wantOf(t, s, 1, none)
		if how := told(s, 1, 0); how != api.Limit {
			t.Fatalf("%+v: %d", s, how)
		}
	}
	for _, s := range []api.Set{example(), mixed(), good(), setOf(0, one(4, 1), one(6, 2)), eight(9, 8, 7, 6, 5, 4, 3, 0)} {
		wantMost(t, s)
		for i := range s.Tasks {
			if how := next(t, s, i); how != api.Miss {
				t.Fatalf("%d in %+v: %d", i, s, how)
			}
		}
	}
	wantAll(t, setOf(0, one(1, 1)), 0)
	if how := next(t, setOf(0, one(1, 1)), 0); how != api.Limit {
		t.Fatal(how)
	}
}

// With the greatest block a job is done just at its deadline, or far ahead of it, as with one more something else comes between.
func TestP14_1AtDeadline(t *testing.T) {
	for _, x := range []struct {
		d, n, r int64
	}{{599, none, 0}, {600, 0, 600}, {601, 1, 601}, {999, 399, 999}, {1000, 400, 1000}, {1001, 400, 1000}, {1200, 400, 1000}, {1499, 400, 1000}, {1500, 400, 1000}, {1501, 401, 1501}, {2000, 900, 2000}, {2001, 900, 2000}, {2500, 900, 2000}, {2600, 1000, 2600}} {
		s := setOf(0, one(1000, 500), due(one(3000, 60, 40), x.d))
		wantAll(t, s, 500, x.n)
		wantMost(t, s)
		if r, how := resp.With(s, 1, max(x.n, 0)); x.n != none && (r != x.r || how != api.Accept) {
			t.Fatalf("%+v: %d, %d", s, r, how)
		}
	}
	// as near to D as may be, as a task has a tick at least; and as far from it
	for d := int64(1); d <= api.MaxTime; d += 303 {
		wantAll(t, setOf(0, due(one(10000, 1), d)), d-1)
		wantAll(t, setOf(0, due(one(10000, d), d)), 0)
		if d > 1 {
			wantAll(t, setOf(0, one(10000, 1), due(one(10000, 1), d)), 9999, d-2)
			wantAll(t, setOf(0, one(10000, d-1), due(one(10000, 1), d)), 10001-d, 0)
		}
	}
}

// Neither how tasks are interrupted is of any weight (mode, Q, Theta), nor how a task is cut to regions.
func TestP14_1NotHow(t *testing.T) {
	r := rand.New(rand.NewSource(141))
	sets := []api.Set{example(), mixed(), good(), later(), eight(9, 0, 7, 0, 5, 4, 3, 2)}
	for range 40 {
		sets = append(sets, anySet(r))
	}
	for _, s := range sets {
		want := wantMost(t, s)
		for mode := range 3 {
			for _, n := range []int64{0, 1, 40, api.MaxTime} {
				x := api.Set{Reload: s.Reload, Tasks: slices.Clone(s.Tasks)}
				for i := range x.Tasks {
					switch x.Tasks[i].Mode, x.Tasks[i].Q, x.Tasks[i].Theta = mode, 0, 0; mode {
					case api.Float:
						x.Tasks[i].Q = n
					case api.Thresh:
						x.Tasks[i].Theta = min(int(n), i)
					}
					if c := work(x.Tasks[i]); n == 40 && c > 1 {
						x.Tasks[i].Regions = []int64{c - 1, 1}
					}
				}
				wantAll(t, x, want...)
			}
		}
	}
}

// What is lower is of no weight but for what it must load again; neither are names, nor the deadlines of others.
func TestP14_1NotLower(t *testing.T) {
	s := setOf(5, touches(one(100, 20), 0b111, 0), due(touches(one(200, 10), 0b11, 0b11), 90), touches(one(1000, 30), 0b1, 0b1))
	wantAll(t, s, 80, 50, 595)
	for _, x := range []api.Task{one(1, 1), one(10000, 9999), touches(one(10, 10), all, 0), touches(floats(one(50, 5), 50), all, 0b11), threshs(touches(due(one(50, 5), 5), 0b11, 0b10), 0)} {
		lower := setOf(5, s.Tasks[0], s.Tasks[1], x)
		wantOf(t, lower, 0, 80)
		wantOf(t, lower, 1, 50)
		if x.ECB == 0 {
			lower = setOf(5, s.Tasks[0], x, s.Tasks[1])
			wantOf(t, lower, 0, 80)
		}
	}
	for taken, n := range []int64{50, 45, 40, 35} {
		ecb := uint64(1)<<taken - 1
		lower := setOf(5, touches(one(100, 20), 0b11111, 0), s.Tasks[1], touches(one(1000, 30), ecb<<2, ecb<<2))
		wantOf(t, lower, 1, n)
		lower.Reload = 0
		wantOf(t, lower, 1, 60)
	}
	named := setOf(5, s.Tasks...)
	for i := range named.Tasks {
		named.Tasks[i].Name = strings.Repeat(string(rune('z'-i)), 1+i)
	}
	wantAll(t, named, 80, 50, 595)
	named.Tasks[0].D, named.Tasks[1].D = 20, 10
	wantAll(t, named, 0, none, 595)
}

// kinds are tasks of a period of up to five ticks, each in each way.
func kinds(at int, period int64) []api.Task {
	var l []api.Task
	for c := int64(1); c <= period; c++ {
		for d := c; d <= period; d++ {
			x := due(one(period, c), d)
			l = append(l, x, touches(x, 1, 1), floats(x, 0), floats(x, 1))
			if c > 1 {
				l = append(l, due(one(period, c-1, 1), d))
			}
			for theta := range at + 1 {
				l = append(l, threshs(x, theta), threshs(touches(x, 1, 1), theta))
			}
		}
	}
	return l
}

// All sets of up to two short tasks, and many of three, each block asked.
func TestP14_1AllSmall(t *testing.T) {
	met := map[int64]int{}
	ask := func(l ...api.Task) {
		s := setOf(1, l...)
		var want []int64
		for i := range l {
			n := byBlocks(t, s, i)
			want = append(want, n)
			met[n]++
			if most(s, i) != n {
				t.Fatalf("%d in %+v: %d is left, %d is borne", i, s, most(s, i), n)
			}
		}
		if l, ok := All(s); ok != !slices.Contains(want, none) || ok && !slices.Equal(l, want) {
			t.Fatalf("All of %+v: %v, %t, want %v", s, l, ok, want)
		}
		wantOf(t, s, len(l)-1, want[len(l)-1])
	}
	for _, periods := range [][]int64{{1}, {2}, {3}, {4}, {5}, {1, 1}, {1, 2}, {2, 1}, {2, 2}, {2, 3}, {3, 2}} {
		for _, a := range kinds(0, periods[0]) {
			if len(periods) == 1 {
				ask(a)
				continue
			}
			for _, b := range kinds(1, periods[1]) {
				ask(a, b)
			}
		}
	}
	three := [][]api.Task{kinds(0, 3), kinds(1, 4), kinds(2, 5)}
	for i, a := range three[0] {
		for k, b := range three[1] {
			for n := (7*i + k) % 400; n < len(three[2]); n += 400 {
				ask(a, b, three[2][n])
			}
		}
	}
	if met[none] < 1000 || met[0] < 1000 || met[1] < 1000 || met[2] < 200 {
		t.Errorf("not enough of each: %v", met)
	}
}

// pick is one of several numbers, by chance.
func pick(r *rand.Rand, l ...int64) int64 { return l[r.Intn(len(l))] }

// anyTask is a task that may be at a place, has a period of at most so many ticks, and asks for about a part of the time.
func anyTask(r *rand.Rand, at int, most int64, part float64) api.Task {
	x := one(1 + r.Int63n(most))
	left := min(x.T, 1+int64(2*r.Float64()*part*float64(x.T)))
	for range r.Intn(api.MaxRegions) {
		if left > 1 {
			n := 1 + r.Int63n(left-1)
			x.Regions = append(x.Regions, n)
			left -= n
		}
	}
	x.Regions = append(x.Regions, left)
	x.D = pick(r, x.T, work(x), work(x)+r.Int63n(x.T-work(x)+1))
	switch x.Mode = r.Intn(3); x.Mode {
	case api.Float:
		x.Q = pick(r, 0, 1, work(x), api.MaxTime)
	case api.Thresh:
		x.Theta = r.Intn(at + 1)
	}
	x.ECB = []uint64{0, 1, 1 << 63, all, r.Uint64(), r.Uint64() & r.Uint64() & r.Uint64()}[r.Intn(6)]
	x.UCB = x.ECB & []uint64{0, all, r.Uint64(), r.Uint64() & r.Uint64() & r.Uint64()}[r.Intn(4)]
	return x
}

// anySet is a set that may be, and that is accepted about every other time.
func anySet(r *rand.Rand) api.Set {
	var l []api.Task
	n := 1 + r.Intn(api.MaxTasks)
	part := []float64{0.02, 0.1, 0.3, 0.6, 0.9, 1.2}[r.Intn(6)] / float64(n)
	late, inOrder := r.Intn(4) > 0, r.Intn(3) > 0
	most := pick(r, 20, 300, 3000, api.MaxTime)
	for at := range n {
		period := most
		if inOrder {
			period = min(most, (most*int64(at)/int64(n)+7)*3/2)
		}
		x := anyTask(r, at, period, part)
		if late {
			x.D = x.T
		}
		l = append(l, x)
	}
	if inOrder {
		slices.SortStableFunc(l, func(a, b api.Task) int { return int(a.D - b.D) })
		for at := range l {
			l[at].Theta = min(l[at].Theta, at)
		}
	}
	return setOf(pick(r, 0, 0, 0, 0, 1, 2, 5, r.Int63n(api.MaxTime+1)), l...)
}

func TestP14_1ByChance(t *testing.T) {
	r := rand.New(rand.NewSource(142))
	met := map[string]int{}
	for range 1000 {
		s := anySet(r)
		l := wantMost(t, s)
		for i, n := range l {
			switch {
			case n == none:
				met["none"]++
			case n == 0:
				met["0"]++
			case i > 0 && n > 9 && n < s.Tasks[i].D-work(s.Tasks[i]):
				met["more"]++
			}
		}
		if len(l) == api.MaxTasks && !slices.Contains(l, none) {
			met["eight"]++
		}
	}
	if met["none"] < 500 || met["0"] < 100 || met["more"] < 1000 || met["eight"] < 10 {
		t.Errorf("not enough of each: %v", met)
	}
}

// By the processor that works: with just so much a task is accepted, with one more it is not, nor with D.
func TestP14_1Told(t *testing.T) {
	r := rand.New(rand.NewSource(143))
	met := map[int]int{}
	for range 400 {
		s := anySet(r)
		for i, x := range s.Tasks {
			n, ok := Of(s, i)
			if n < 0 || n >= x.D || !ok && n != 0 {
				t.Fatalf("Of %d in %+v: %d, %t", i, s, n, ok)
			}
			how, more, last := told(s, i, n), told(s, i, n+1), told(s, i, x.D)
			if (how == api.Accept) != ok || more == api.Accept || last == api.Accept {
				t.Fatalf("Of %d in %+v: %d, %t, with that %d, with more %d, with D %d", i, s, n, ok, how, more, last)
			}
			if ok {
				met[more]++
			} else {
				met[10+how]++
			}
		}
	}
	if met[api.Miss] < 500 || met[api.Limit] < 5 || met[10+api.Miss] < 50 || met[10+api.Limit] < 50 || len(met) != 4 {
		t.Errorf("not enough of each: %v", met)
	}
}

// All is what Of tells of each, in their order.
func TestP14_1OneByOne(t *testing.T) {
	r := rand.New(rand.NewSource(144))
	for range 700 {
		s := anySet(r)
		l, ok := All(s)
		whole := true
		for i := range s.Tasks {
			n, has := Of(s, i)
			whole = whole && has
			if ok && (!has || l[i] != n) {
				t.Fatalf("%+v: %v; %d: %d, %t", s, l, i, n, has)
			}
		}
		if ok != whole || ok && len(l) != len(s.Tasks) || !ok && len(l) != 0 {
			t.Fatalf("%+v: %v, %t", s, l, ok)
		}
	}
}

// A set is accepted just if each task bears what stands in its way: so one may not be, though each task bears something.
func TestP14_1Accepted(t *testing.T) {
	for _, x := range []struct {
		c    int64
		want []int64
		how  int
	}{{9, []int64{8, 71}, api.Accept}, {10, []int64{8, 70}, api.Miss}, {80, []int64{8, 0}, api.Miss}, {81, []int64{8, none}, api.Miss}} {
		s := setOf(0, one(10, 2), one(100, x.c))
		wantAll(t, s, x.want...)
		if v, _ := admit.Judge(s); v.How != x.how {
			t.Errorf("%d: %+v", x.c, v)
		}
	}
	r := rand.New(rand.NewSource(145))
	met := map[string]int{}
	for range 2000 {
		s := anySet(r)
		l, ok := All(s)
		fits := ok
		for i := range l {
			fits = fits && block.Most(s, i) <= l[i]
		}
		v, _ := admit.Judge(s)
		if fits != (v.How == api.Accept) {
			t.Fatalf("%+v: bears %v, %+v", s, l, v)
		}
		met[fmt.Sprint(ok, fits)]++
	}
	if met["true true"] < 500 || met["true false"] < 100 || met["false false"] < 300 || len(met) != 3 {
		t.Errorf("not enough of each: %v", met)
	}
}

// With each less block a task is accepted, and with each greater one, up to D and beyond, it is not.
func TestP14_2EachBlock(t *testing.T) {
	r := rand.New(rand.NewSource(146))
	sets := []api.Set{example(), later(), mixed(), good(), eight(9, 0, 7, 0, 5, 4, 3, 2), setOf(0, one(1000, 500), due(one(3000, 60, 40), 1499))}
	sets = append(sets, limits()...)
	for range 300 {
		sets = append(sets, anySet(r))
	}
	met := 0
	for _, s := range sets {
		for i, x := range s.Tasks {
			n, ok := Of(s, i)
			if !ok {
				n = none
			}
			for less := n; less >= 0; less -= 1 + n/40 {
				if _, how := resp.With(s, i, less); how != api.Accept {
					t.Fatalf("%d in %+v: bears %d, with %d it is %d", i, s, n, less, how)
				}
				met++
			}
			for more := n + 1; more <= x.D+2; more += 1 + x.D/5 {
				if _, how := resp.With(s, i, more); how == api.Accept {
					t.Fatalf("%d in %+v: bears %d, with %d it is accepted", i, s, n, more)
				}
			}
		}
	}
	if met < 10000 {
		t.Errorf("only %d found", met)
	}
}

// Block by block, without a gap.
func TestP14_2NoGap(t *testing.T) {
	for _, s := range []api.Set{example(), mixed(), good(), later(), eight(9, 0, 7, 0, 5, 4, 3, 2), setOf(0, one(1000, 500), due(one(3000, 60, 40), 1499)), setOf(0, one(10000, 1))} {
		for i, x := range s.Tasks {
			n, ok := Of(s, i)
			for block := range x.D + 1 {
				if _, how := resp.With(s, i, block); (how == api.Accept) != (ok && block <= n) {
					t.Fatalf("%d in %+v: bears %d, %t, with %d it is %d", i, s, n, ok, block, how)
				}
			}
		}
	}
}

// shorter is a set with one region shorter by one.
func shorter(s api.Set, i, k int) api.Set {
	x := api.Set{Reload: s.Reload, Tasks: slices.Clone(s.Tasks)}
	x.Tasks[i].Regions = slices.Clone(x.Tasks[i].Regions)
	x.Tasks[i].Regions[k]--
	return x
}

// With a region shorter by one each task bears no less; the task itself bears more, those ahead of it just as much.
func TestP14_2Shorter(t *testing.T) {
	r := rand.New(rand.NewSource(147))
	met := 0
	for range 120 {
		s := anySet(r)
		l := wantMost(t, s)
		for i, x := range s.Tasks {
			for k, n := range x.Regions {
				if n == 1 {
					continue
				}
				for m, was := range l {
					less, ok := Of(shorter(s, i, k), m)
					if !ok {
						less = none
					}
					if less < was || m < i && less != was || m == i && was != none && less == was {
						t.Fatalf("%d in %+v: bears %d, with %d of %d shorter %d", m, s, was, k, i, less)
					}
					met++
				}
				if _, ok := All(shorter(s, i, k)); !ok && !slices.Contains(l, none) {
					t.Fatalf("%+v: nothing with %d of %d shorter", s, k, i)
				}
			}
		}
	}
	if met < 3000 {
		t.Errorf("only %d found", met)
	}
}

// good is a set that may be, in which each task has a bound at each block that is not too long.
func good() api.Set {
	return setOf(4, touches(one(900, 3, 9), 0b111, 0b1), touches(one(700, 7), 0b11, 0b11), touches(one(800, 2, 8), 0b1, 0b1))
}

// spoiled are sets that may not be, each by one fault, in a task of each place or in the set itself.
func spoiled() []api.Set {
	var l []api.Set
	whole := func(change func(s *api.Set)) {
		s := good()
		change(&s)
		l = append(l, s)
	}
	each := func(change func(t *api.Task)) {
		for i := range 3 {
			whole(func(s *api.Set) { change(&s.Tasks[i]) })
		}
	}
	for _, n := range []int64{-1, api.MaxTime + 1, math.MinInt64, math.MaxInt64, -1 << 32, 1 << 32} {
		whole(func(s *api.Set) { s.Reload = n })
		each(func(t *api.Task) { t.T = n })
		each(func(t *api.Task) { t.D = n })
		each(func(t *api.Task) { t.T, t.D = n, n })
		each(func(t *api.Task) { t.Mode, t.Q = api.Float, n })
		each(func(t *api.Task) { t.Mode, t.Theta = api.Thresh, int(n) })
		each(func(t *api.Task) { t.Mode = int(n) })
		each(func(t *api.Task) { t.Regions = []int64{n} })
		each(func(t *api.Task) { t.Regions = []int64{n, 1} })
	}
	for _, name := range []string{"", "A", "9", "task", " a", "a ", "a#", "é", "\xff", "abcdefghijklm", strings.Repeat("a", 1<<10)} {
		each(func(t *api.Task) { t.Name = name })
	}
	each(func(t *api.Task) { t.Regions = nil })
	each(func(t *api.Task) { t.Regions = []int64{} })
	each(func(t *api.Task) { t.Regions = []int64{0} })
	each(func(t *api.Task) { t.Regions = slices.Repeat([]int64{1}, api.MaxRegions+1) })
	each(func(t *api.Task) { t.T, t.D = 0, 0 })
	each(func(t *api.Task) { t.D = 1 })
	each(func(t *api.Task) { t.T-- })
	each(func(t *api.Task) { t.Q = 1 })
	each(func(t *api.Task) { t.Theta = 1 })
	each(func(t *api.Task) { t.Mode, t.Theta = api.Thresh, 3 })
	each(func(t *api.Task) { t.Mode = 3 })
	each(func(t *api.Task) { t.UCB = 0b1000 })
	each(func(t *api.Task) { t.UCB = all })
	whole(func(s *api.Set) { s.Tasks[2].Name = s.Tasks[0].Name })
	whole(func(s *api.Set) { s.Tasks[2].Name = s.Tasks[1].Name })
	for _, n := range []int{api.MaxTasks + 1, api.MaxTasks + 2, 64, 65} {
		l = append(l, setOf(4, slices.Repeat([]api.Task{touches(one(900, 9), all, all)}, n)...))
	}
	return append(l, api.Set{}, setOf(4), api.Set{Reload: 4, Tasks: []api.Task{}}, api.Set{Reload: 4, Tasks: good().Tasks[:0]}, api.Set{Tasks: make([]api.Task, 3)})
}

func TestP14_1SetsThatMayNotBe(t *testing.T) {
	for _, s := range spoiled() {
		wantNoSet(t, s)
	}
	wantNoSet(t, api.Set{})
	wantNoSet(t, api.Set{Tasks: []api.Task{}})
	wantNoSet(t, api.Set{Reload: 4})
	wantNoSet(t, api.Set{Reload: -1})
	wantNoSet(t, setOf(0, one(5, 6)))
	wantNoSet(t, setOf(0, due(one(5, 2), 6)))
	wantNoSet(t, setOf(0, due(one(5, 2), 1)))
	wantAll(t, good(), 888, 673, 748)
}

// A fault is one of the whole set: the tasks ahead of it bear nothing, either.
func TestP14_1FaultsOfAll(t *testing.T) {
	faults := []api.Task{one(100, 101), due(one(100, 1), 101), one(100), one(100, 0), touches(one(100, 1), 1, 2), threshs(one(100, 1), 9), {}}
	for _, s := range []api.Set{example(), later(), mixed(), good(), limits()[0]} {
		for _, f := range faults {
			for at := range len(s.Tasks) + 1 {
				wantNoSet(t, setOf(0, slices.Insert(slices.Clone(s.Tasks), at, f)...))
			}
		}
		for _, n := range []int64{-1, api.MaxTime + 1} {
			wantNoSet(t, setOf(n, s.Tasks...))
		}
		for i := range s.Tasks {
			l := setOf(0, append(slices.Clone(s.Tasks), one(100, 1))...)
			l.Tasks[len(s.Tasks)].Name = l.Tasks[i].Name
			wantNoSet(t, l)
		}
		for n := api.MaxTasks; n < api.MaxTasks+3; n++ {
			wantNoSet(t, setOf(0, append(slices.Clone(s.Tasks), slices.Repeat([]api.Task{one(100, 1)}, n-len(s.Tasks)+1)...)...))
		}
	}
}

// Of very many tasks there is nothing, and it is told soon.
func TestW1VeryMany(t *testing.T) {
	wantNoSet(t, setOf(4, slices.Repeat([]api.Task{one(900, 9)}, 1<<16)...))
	wantNoSet(t, setOf(4, one(900, slices.Repeat([]int64{1}, 1<<16)...)))
	wantNoSet(t, api.Set{Tasks: []api.Task{{Name: strings.Repeat("a", 1<<20), T: 5, D: 5, Regions: []int64{1}}}})
}

// Sets of which the processor is busy for very long: it ends, too.
func TestW1VeryLong(t *testing.T) {
	for _, s := range []api.Set{
		setOf(api.MaxTime, one(2, 1), touches(one(10000, 1), 1<<50-1, 1<<50-1)), setOf(0, one(1000, 100), one(999, 90), one(998, 90), one(2, 1), one(10000, 4900)),
		setOf(api.MaxTime, slices.Repeat([]api.Task{touches(one(10000, 1), all, all)}, api.MaxTasks)...), setOf(0, slices.Repeat([]api.Task{one(8, 1)}, api.MaxTasks)...),
		setOf(0, slices.Repeat([]api.Task{one(10000, 1250)}, api.MaxTasks)...), setOf(0, one(10000, 4900), one(9999, 90), one(2, 1)), setOf(0, one(10000, 4999), one(2, 1)),
		setOf(0, one(9953, 1), one(6090, 1), one(5832, 2733), one(5891, 128), one(4, 1), one(8120, 1597), one(9936, 1), one(16, 1)),
	} {
		wantMost(t, s)
	}
}

// spared is a set with room behind its lists' ends, and all of that room.
func spared(s api.Set) (api.Set, []api.Task, [][]int64) {
	tasks := append(slices.Clone(s.Tasks), touches(one(9000, 900), all, all), touches(one(8000, 800), all, all))
	tasks[len(s.Tasks)].Name, tasks[len(s.Tasks)+1].Name = "spare", "room"
	var rows [][]int64
	for i := range tasks {
		row := append(slices.Clone(tasks[i].Regions), 7777, 8888)
		rows = append(rows, row)
		tasks[i].Regions = row[:len(row)-2]
	}
	return api.Set{Reload: s.Reload, Tasks: tasks[:len(s.Tasks)]}, tasks, rows
}

// What is handed in is as it was, its lists' spare room too; and that room is no part of the set.
func TestW6HandedIn(t *testing.T) {
	r := rand.New(rand.NewSource(148))
	sets := append(spoiled(), example(), mixed(), good(), eight(), later())
	for range 300 {
		sets = append(sets, anySet(r))
	}
	for _, s := range sets {
		x, tasks, rows := spared(s)
		_, wantTasks, wantRows := spared(s)
		if task.All(s) {
			wantMost(t, x)
		} else {
			wantNoSet(t, x)
		}
		wantNothing(t, x, len(s.Tasks), len(s.Tasks)+1, len(s.Tasks)+2)
		if !reflect.DeepEqual(tasks, wantTasks) || !reflect.DeepEqual(rows, wantRows) || x.Reload != s.Reload {
			t.Fatalf("%+v has changed: %+v, %v", s, tasks, rows)
		}
	}
}

// spoil writes over a list, and over the room behind its end.
func spoil(l []int64) {
	l = l[:cap(l)]
	for i := range l {
		l[i] = -77
	}
}

// Each answer of All is its own: neither another answer's, nor a part of what was handed in.
func TestW6AnswersApart(t *testing.T) {
	r := rand.New(rand.NewSource(149))
	sets := []api.Set{example(), mixed(), good(), eight(), setOf(0, one(4, 2), one(6, 2)), later()}
	for range 200 {
		sets = append(sets, anySet(r))
	}
	for _, s := range sets {
		x, tasks, rows := spared(s)
		_, wantTasks, wantRows := spared(s)
		a, _ := All(x)
		b, _ := All(x)
		want := fmt.Sprint(b)
		spoil(a)
		if fmt.Sprint(b) != want || !reflect.DeepEqual(tasks, wantTasks) || !reflect.DeepEqual(rows, wantRows) {
			t.Fatalf("%+v: shares memory: %v, want %s", s, b, want)
		}
		if c, _ := All(x); fmt.Sprint(c) != want {
			t.Fatalf("%+v: %v behind a change, want %s", s, c, want)
		}
		for i := range tasks {
			tasks[i] = api.Task{}
			spoil(rows[i])
		}
		if fmt.Sprint(b) != want {
			t.Fatalf("%+v: keeps what was handed in: %v, want %s", s, b, want)
		}
	}
}

// An answer hangs on nothing that was asked ahead of it, and stays what it is.
func TestW2AskedAgain(t *testing.T) {
	r := rand.New(rand.NewSource(150))
	sets := []api.Set{example(), mixed(), {}, good(), later(), eight(), setOf(-1, one(5, 1), one(9, 2))}
	for range 12 {
		sets = append(sets, anySet(r))
	}
	for _, s := range sets {
		l, ok := All(s)
		want := fmt.Sprint(l, ok)
		for _, other := range sets {
			for i := -1; i < len(s.Tasks)+1; i++ {
				n, has := Of(s, i)
				Of(other, i)
				if again, still := Of(s, i); again != n || still != has {
					t.Fatalf("%d in %+v: %d, %t, want %d, %t", i, s, again, still, n, has)
				}
			}
			All(other)
			again, still := All(s)
			if fmt.Sprint(again, still) != want || fmt.Sprint(l, ok) != want {
				t.Fatalf("%+v: %v, %t; %v, want %s", s, again, still, l, want)
			}
		}
	}
}

// A list stays what it is, whatever is asked later.
func TestW7Stays(t *testing.T) {
	r := rand.New(rand.NewSource(151))
	var l [][]int64
	var want []string
	for range 200 {
		n, _ := All(anySet(r))
		l, want = append(l, n), append(want, fmt.Sprint(n))
	}
	for i, n := range l {
		if fmt.Sprint(n) != want[i] {
			t.Fatalf("%v was %s", n, want[i])
		}
	}
}
