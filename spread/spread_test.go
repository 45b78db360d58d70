package spread

import (
	"fmt"
	"math"
	"math/big"
	"math/rand"
	"reflect"
	"slices"
	"strings"
	"testing"

	"taskmaster/admit"
	"taskmaster/again"
	"taskmaster/api"
	"taskmaster/task"
	"taskmaster/toler"
)

const (
	all = math.MaxUint64
	top = int64(api.Top)
)

// none is what a task bears that is late without any block.
const none = -1

// one is a task of a period, without a name.
func one(period int64, regions ...int64) api.Task {
	return api.Task{T: period, D: period, Regions: regions}
}

// due is a task that is to be done within a shorter time.
func due(t api.Task, deadline int64) api.Task {
	t.D = deadline
	return t
}

// floats and threshs are a task in another mode.
func floats(t api.Task, q int64) api.Task {
	t.Mode, t.Q = api.Float, q
	return t
}
func threshs(t api.Task, theta int) api.Task {
	t.Mode, t.Theta = api.Thresh, theta
	return t
}

// touches is a task that touches cache sets, and needs some of them again.
func touches(t api.Task, ecb, ucb uint64) api.Task {
	t.ECB, t.UCB = ecb, ucb
	return t
}

// setOf is a set of tasks, which have names by their places.
func setOf(reload int64, l ...api.Task) api.Set {
	s := api.Set{Reload: reload, Tasks: slices.Clone(l)}
	for i := range s.Tasks {
		s.Tasks[i].Name = fmt.Sprint("t", i)
	}
	return s
}

// example is the chapter's: one task.
func example() api.Set { return setOf(0, one(5, 2)) }

// later is a set whose last task is late without any block: not its first job, but its fifth.
func later() api.Set { return setOf(0, one(70, 26), one(100, 62)) }

// mixed is a set in which what is ahead makes others load something, or nothing, whose periods are in no order, and which has each mode.
func mixed() api.Set {
	return setOf(3, touches(one(900, 20, 7), 0b1011, 0b10), touches(one(70, 5), 0b100, 0b100), threshs(touches(one(9000, 4, 4, 4), 0b11, 0b1), 1),
		floats(one(200, 9), 6), touches(one(1000, 10, 8, 12), 0b1001, 0b1000))
}

// eight is a set of as many tasks as may be, of ten ticks each, of which each one bears as many ticks as told.
func eight(l ...int64) api.Set {
	s := setOf(0, slices.Repeat([]api.Task{one(1000, 10)}, api.MaxTasks)...)
	for i, n := range l {
		s.Tasks[i].D = int64(10*i) + 10 + n
	}
	return s
}

// good is a set that may be, in which each task has a bound at each block that is not too long.
func good() api.Set {
	return setOf(4, touches(one(900, 3, 9), 0b111, 0b1), touches(one(700, 7), 0b11, 0b11), touches(one(800, 2, 8), 0b1, 0b1))
}

// falling is a set of which each task bears less than the one ahead of it, and has more work than that.
func falling() api.Set {
	return setOf(0, one(1000, 100), due(one(4000, 200, 200), 1300), due(one(9000, 300, 100), 1600), due(one(9999, 350), 2600))
}

// wantNone asks for nothing at all.
func wantNone(t *testing.T, s api.Set) {
	t.Helper()
	if l, ok := Of(s); len(l) != 0 || ok {
		t.Fatalf("Of %d tasks: %v, %t, want nil, false", len(s.Tasks), l, ok)
	}
	if x, ok := Put(s); x.Reload != 0 || len(x.Tasks) != 0 || ok {
		t.Fatalf("Put of %d tasks: %+v, %t, want the zero value, false", len(s.Tasks), x, ok)
	}
}

// wantNoSet asks for nothing at all of a set that may not be.
func wantNoSet(t *testing.T, s api.Set) {
	t.Helper()
	if task.All(s) {
		t.Fatalf("a set that may be: %+v", s)
	}
	wantNone(t, s)
}

// wantQ asks for each task's Q, of both calls, and for all else as it was.
func wantQ(t *testing.T, s api.Set, want ...int64) {
	t.Helper()
	if l, ok := Of(s); !ok || !slices.Equal(l, want) {
		t.Fatalf("Of %+v: %v, %t, want %v", s, l, ok, want)
	}
	x, ok := Put(s)
	if !ok || x.Reload != s.Reload || len(x.Tasks) != len(s.Tasks) || len(want) != len(s.Tasks) {
		t.Fatalf("Put of %+v: %+v, %t, want %v", s, x, ok, want)
	}
	for i, is := range x.Tasks {
		was := s.Tasks[i]
		if was.Mode, was.Q, was.Theta = api.Float, want[i], 0; !reflect.DeepEqual(is, was) {
			t.Fatalf("%d in %+v: %+v, want %+v", i, s, is, was)
		}
	}
}

// digits is the cache sets, as they are written.
func digits(x uint64) string { return fmt.Sprintf("%064b", x) }

// work is the ticks of a task, summed here.
func work(x api.Task) int64 {
	n := int64(0)
	for _, r := range x.Regions {
		n += r
	}
	return n
}

// comes is what comes to the processor: of what is ahead a job's work, and one Reload for each cache set that it takes from whatever is lower than it; behind them the task itself.
func comes(s api.Set, i int) []api.Load {
	var l []api.Load
	for j := 0; j < i; j++ {
		c, taken := work(s.Tasks[j]), map[int]int{}
		for _, lower := range s.Tasks[j+1:] {
			needed := digits(lower.UCB)
			for k, d := range digits(s.Tasks[j].ECB) {
				if d == '1' && needed[k] == '1' {
					taken[k]++
				}
			}
		}
		l = append(l, api.Load{T: s.Tasks[j].T, C: c + s.Reload*int64(len(taken))})
	}
	return append(l, api.Load{T: s.Tasks[i].T, C: work(s.Tasks[i])})
}

// isFull tells whether no time is left: in each time from 1 on more comes than it is long.
func isFull(l []api.Load, block int64) bool {
	part := new(big.Rat)
	for _, x := range l {
		part.Add(part, big.NewRat(x.C, x.T))
	}
	more := part.Cmp(big.NewRat(1, 1))
	return more > 0 || more == 0 && block > 0
}

// desk is what waits for the processor: what is ahead and the block, and behind them the task's own jobs, first come, first done.
type desk struct {
	now, first int64
	came, left []int64 // of each own job
	longest    int64   // of those that are done
}

// come is a job of the task that comes.
func (d *desk) come(c int64) { d.came, d.left = append(d.came, d.now), append(d.left, c) }

// do works for some ticks, or until nothing is left.
func (d *desk) do(ticks int64) {
	n := min(ticks, d.first)
	d.first, d.now, ticks = d.first-n, d.now+n, ticks-n
	for ticks > 0 && len(d.left) > 0 {
		n = min(ticks, d.left[0])
		d.left[0], d.now, ticks = d.left[0]-n, d.now+n, ticks-n
		if d.left[0] == 0 {
			d.longest = max(d.longest, d.now-d.came[0])
			d.came, d.left = d.came[1:], d.left[1:]
		}
	}
}

// idle tells whether nothing is left.
func (d *desk) idle() bool { return d.first == 0 && len(d.left) == 0 }

// told is how a task of a set that may be is judged: by a processor that works, from one arrival to the next one, until for the first time nothing is left.
func told(s api.Set, i int, block int64) (how int) {
	l := comes(s, i)
	if isFull(l, block) {
		return api.Limit
	}
	d, next := &desk{first: block}, make([]int64, len(l))
	for {
		for k, x := range l {
			switch {
			case next[k] != d.now:
				continue
			case k == i:
				d.come(x.C)
			default:
				d.first += x.C
			}
			next[k] += x.T
		}
		d.do(slices.Min(next) - d.now)
		switch {
		case d.now > top || !d.idle() && d.now == top:
			return api.Limit
		case d.idle() && d.longest <= s.Tasks[i].D:
			return api.Accept
		case d.idle():
			return api.Miss
		}
	}
}

// left is how much is left of a time when all that comes is done.
func left(l []api.Load, until int64) int64 {
	n := until
	for _, x := range l {
		n -= x.C * ((until + x.T - 1) / x.T)
	}
	return n
}

// most is what a task of a set that may be bears: the most that is left of any time up to D for a block; or none. A longer time leaves more until something comes: so D is asked, and the times at which something comes.
func most(s api.Set, i int) int64 {
	l, d := comes(s, i), s.Tasks[i].D
	n := left(l, d)
	for _, x := range l {
		for until := x.T; until < d; until += x.T {
			n = max(n, left(l, until))
		}
	}
	return max(n, none)
}

// own is how long a task's cache sets are loaded, by the digits of them.
func own(s api.Set, i int) int64 { return s.Reload * int64(strings.Count(digits(s.Tasks[i].UCB), "1")) }

// stands is how long what is lower stands in a task's way, where all float.
func stands(s api.Set, i int) int64 {
	n := int64(0)
	for k := i + 1; k < len(s.Tasks); k++ {
		n = max(n, min(s.Tasks[k].Q, work(s.Tasks[k])+own(s, k)-1))
	}
	return n
}

// isDone tells whether all tasks of a set in which all float are done in time, by the processor that works.
func isDone(s api.Set) bool {
	for i := range s.Tasks {
		if told(s, i, stands(s, i)) != api.Accept {
			return false
		}
	}
	return true
}

// isAccepted tells how a set is judged.
func isAccepted(t *testing.T, s api.Set) bool {
	t.Helper()
	v, e := admit.Judge(s)
	if e != api.OK {
		t.Fatalf("%+v may not be", s)
	}
	return v.How == api.Accept
}

// longest is what the chapter asks of a set that may be: nil, if a task bears nothing.
func longest(s api.Set) []int64 {
	var l []int64
	least := int64(math.MaxInt64)
	for i, x := range s.Tasks {
		n := most(s, i)
		if n == none {
			return nil
		}
		if i == 0 {
			l = append(l, work(x))
		} else {
			l = append(l, least)
		}
		least = min(least, n)
	}
	return l
}

// wantLongest asks for what the chapter asks, and answers it.
func wantLongest(t *testing.T, s api.Set) []int64 {
	t.Helper()
	if !task.All(s) {
		t.Fatalf("a set that may not be: %+v", s)
	}
	l := longest(s)
	if l == nil {
		wantNone(t, s)
	} else {
		wantQ(t, s, l...)
	}
	return l
}

// with is a set in which one task has another Q.
func with(s api.Set, i int, q int64) api.Set {
	x := api.Set{Reload: s.Reload, Tasks: slices.Clone(s.Tasks)}
	x.Tasks[i].Q = q
	return x
}

// wantNoMore asks of what is Put that it is accepted, and with a Q greater by one just if that Q is the first task's, or is no less than its task's work and loading, less a tick; it answers how many are refused, and how many of Qs that are not the first task's are accepted still.
func wantNoMore(t *testing.T, s api.Set) (refused, still int) {
	t.Helper()
	x, ok := Put(s)
	if !ok {
		t.Fatalf("%+v: nothing", s)
	}
	if !task.All(x) || !isAccepted(t, x) {
		t.Fatalf("%+v is not accepted", x)
	}
	for i, y := range x.Tasks {
		if y.Q == api.MaxTime {
			continue
		}
		more := with(x, i, y.Q+1)
		want := i == 0 || task.Work(y)+again.Own(x, i) <= y.Q+1
		if isAccepted(t, more) != want {
			t.Fatalf("%+v: with one more of %d, want accepted: %t", x, i, want)
		}
		switch {
		case !want:
			refused++
		case i > 0:
			still++
		}
	}
	return refused, still
}

func TestP15_1Example(t *testing.T) {
	wantQ(t, example(), 2)
	wantQ(t, setOf(0, one(5, 5)), 5)
	wantQ(t, setOf(0, one(5, 1, 1, 2)), 4)
	wantQ(t, setOf(0, one(1, 1)), 1)
	wantQ(t, setOf(0, one(api.MaxTime, 1)), 1)
	wantQ(t, setOf(0, one(api.MaxTime, api.MaxTime)), api.MaxTime)
	wantQ(t, setOf(0, due(one(api.MaxTime, 1250, 1250), 2500)), 2500)
	wantQ(t, setOf(0, one(8, slices.Repeat([]int64{1}, api.MaxRegions)...)), 8)
	wantQ(t, setOf(api.MaxTime, touches(one(5, 2), all, all)), 2)
}

// Sets of which it is reckoned by hand how long each Q may be.
func TestP15_1ByHand(t *testing.T) {
	for _, x := range []struct {
		s    api.Set
		want []int64
	}{
		{setOf(0, one(4, 2), one(6, 2)), []int64{2, 2}}, {setOf(0, one(4, 2), one(6, 3)), nil}, {later(), nil}, {setOf(0, one(70, 26), one(100, 48)), []int64{26, 44}}, {setOf(0, one(70, 26), one(100, 49)), nil},
		{setOf(0, one(4, 1), one(6, 2)), []int64{1, 3}}, {setOf(0, one(4, 1), due(one(6, 2), 3)), []int64{1, 3}}, {setOf(0, one(4, 1), due(one(6, 2), 2)), nil}, {setOf(0, one(6, 2), one(4, 1)), []int64{2, 4}}, {setOf(0, one(6, 4), one(4, 1)), nil},
		{setOf(0, one(10, 2), due(one(20, 5), 18), due(one(100, 10), 90)), []int64{2, 8, 8}}, {setOf(0, one(2, 1), one(3, 1), one(6, 1)), []int64{1, 1, 0}}, {setOf(0, one(2, 1), one(3, 1), due(one(6, 1), 5)), nil},
		{mixed(), []int64{27, 873, 32, 32, 32}}, {good(), []int64{12, 888, 673}}, {falling(), []int64{100, 900, 700, 600}}, {eight(9, 8, 7, 6, 5, 4, 3, 2), []int64{10, 9, 8, 7, 6, 5, 4, 3}},
	} {
		if x.want == nil {
			wantNone(t, x.s)
		} else {
			wantQ(t, x.s, x.want...)
		}
		wantLongest(t, x.s)
	}
}

// The least that is borne ahead: by the first task, by a middle one, by the one just ahead; it stays the same or falls, from task to task.
func TestP15_1Least(t *testing.T) {
	for _, x := range []struct{ bear, want []int64 }{
		{[]int64{3, 9, 8, 7, 99, 50, 4, 5}, []int64{10, 3, 3, 3, 3, 3, 3, 3}}, {[]int64{50, 9, 3, 7, 9, 5, 4, 77}, []int64{10, 50, 9, 3, 3, 3, 3, 3}}, {[]int64{900, 800, 700, 600, 500, 400, 300, 200}, []int64{10, 900, 800, 700, 600, 500, 400, 300}},
		{[]int64{5, 5, 5, 5, 5, 5, 5, 5}, []int64{10, 5, 5, 5, 5, 5, 5, 5}}, {[]int64{1, 2, 3, 4, 5, 6, 7, 8}, []int64{10, 1, 1, 1, 1, 1, 1, 1}}, {[]int64{50, 60, 40, 45, 30, 31, 20, 0}, []int64{10, 50, 50, 40, 40, 30, 30, 20}},
		{[]int64{0, 9, 9, 9, 9, 9, 9, 9}, []int64{10, 0, 0, 0, 0, 0, 0, 0}}, {[]int64{9, 9, 9, 0, 9, 9, 9, 9}, []int64{10, 9, 9, 9, 0, 0, 0, 0}}, {[]int64{9, 9, 9, 9, 9, 9, 0, 9}, []int64{10, 9, 9, 9, 9, 9, 9, 0}}, {[]int64{9, 9, 9, 9, 9, 9, 9, 0}, []int64{10, 9, 9, 9, 9, 9, 9, 9}},
		{[]int64{990, 0, 0, 0, 0, 0, 0, 0}, []int64{10, 990, 0, 0, 0, 0, 0, 0}}, {[]int64{9, 10, 11, 9, 8, 8, 9, 8}, []int64{10, 9, 9, 9, 9, 8, 8, 8}},
	} {
		s := eight(x.bear...)
		for n := 1; n <= api.MaxTasks; n++ {
			some := setOf(0, s.Tasks[:n]...)
			if l, ok := toler.All(some); !ok || !slices.Equal(l, x.bear[:n]) {
				t.Fatalf("%v: %v bears", x.bear[:n], l)
			}
			wantQ(t, some, x.want[:n]...)
			wantNoMore(t, some)
		}
	}
}

// The least of all ahead, in each order.
func TestP15_1InOrder(t *testing.T) {
	r := rand.New(rand.NewSource(151))
	for range 100 {
		var bear []int64
		for range api.MaxTasks {
			bear = append(bear, r.Int63n(900))
		}
		want := []int64{10}
		for i := 1; i < api.MaxTasks; i++ {
			want = append(want, slices.Min(bear[:i]))
		}
		wantQ(t, eight(bear...), want...)
	}
}

// The first task's Q is its work, however much it bears: less than that, just that, more; and its loading is no part of it.
func TestP15_1First(t *testing.T) {
	for _, c := range []int64{1, 2, 40, 99, 100} {
		for d := c; d <= 100; d += 1 + c%3 {
			for _, n := range []int{1, 2, api.MaxTasks} {
				s := setOf(7, slices.Repeat([]api.Task{one(10000, 1)}, n)...)
				s.Tasks[0] = touches(due(one(100, c), d), all, all)
				s.Tasks[0].Name = "first"
				want := append([]int64{c}, slices.Repeat([]int64{d - c}, n-1)...)
				if c == 100 && n > 1 { // no time is left
					wantNone(t, s)
					continue
				}
				wantQ(t, s, want...)
			}
		}
	}
	for n := 1; n <= api.MaxRegions; n++ {
		l := []int64{1, 20, 3, 400, 5, 60, 7, 800}[:n]
		s := setOf(0, one(3000, l...), one(9000, 1))
		c := work(s.Tasks[0])
		wantQ(t, s, c, 3000-c)
		s.Tasks[0], s.Tasks[1] = s.Tasks[1], s.Tasks[0] // it is the place, not the task
		wantQ(t, s, 1, 8999)
	}
}

// What the last task bears is of no weight, if it bears something; if it bears nothing, no task has a Q.
func TestP15_1Last(t *testing.T) {
	for _, c := range []int64{1, 2, 30, 60} {
		for d := c; d <= 200; d++ {
			s := setOf(0, one(70, 26), due(one(200, c), d))
			if most(s, 1) == none {
				wantNone(t, s)
			} else {
				wantQ(t, s, 26, 44)
			}
		}
	}
	for n := 2; n <= api.MaxTasks; n++ {
		bear := []int64{77, 9, 40, 6, 12, 5, 1, 8}[:n]
		want := []int64{10, 77, 9, 9, 6, 6, 5, 1}[:n]
		for _, last := range []int64{none, 0, 1, 2, 8, 9, 10, 77, 900} {
			bear[n-1] = last
			s := eight(bear...)
			s = setOf(0, s.Tasks[:n]...)
			if last == none {
				wantNone(t, s)
			} else {
				wantQ(t, s, want...)
			}
		}
	}
}

// A task that bears nothing, not even 0: then there is no Q, not even of those ahead of it.
func TestP15_1Nothing(t *testing.T) {
	for n := 2; n <= api.MaxTasks; n++ {
		for i := 1; i < n; i++ {
			bear := []int64{9, 99, 5, 899, 9, 77, 3, 12}[:n]
			bear[i] = none
			s := eight(bear...)
			s = setOf(0, s.Tasks[:n]...)
			wantNone(t, s)
			for k := 1; k < n; k++ {
				was := bear[k]
				bear[k] = none
				wantNone(t, setOf(0, eight(bear...).Tasks[:n]...))
				bear[k] = was
			}
			s.Tasks[i].D++
			wantLongest(t, s)
			if _, ok := Of(s); !ok {
				t.Fatalf("%+v: nothing", s)
			}
		}
	}
	for _, s := range limits() {
		wantQ(t, s, work(s.Tasks[0]), s.Tasks[0].T-work(s.Tasks[0]))
		x := with(s, 1, 0)
		x.Tasks[1].D = work(x.Tasks[1])
		wantNone(t, x)
		x.Tasks[1].D = s.Tasks[1].T
		x.Tasks[0].Regions = []int64{x.Tasks[0].T}
		wantNone(t, x)
	}
}

// limits is a set of two tasks that leave no time, or next to none, so that the second one bears nothing more than 0.
func limits() []api.Set {
	return []api.Set{setOf(0, one(2, 1), one(2, 1)), setOf(0, one(9999, 9998), one(10000, 1)), setOf(0, one(9999, 9990), one(10000, 9)), setOf(0, one(6, 3), one(6, 2, 1)), setOf(2, touches(one(5, 1), 1, 0), touches(one(10, 4), 1, 1))}
}

// Nothing of the modes that tasks had is of any weight, and nothing of them is left.
func TestP15_1Modes(t *testing.T) {
	r := rand.New(rand.NewSource(152))
	sets := []api.Set{example(), mixed(), good(), falling(), eight(9, 0, 7, 0, 5, 4, 3, 2), later()}
	for range 60 {
		sets = append(sets, anySet(r))
	}
	met := 0
	for _, s := range sets {
		want := wantLongest(t, s)
		for range 5 {
			x := api.Set{Reload: s.Reload, Tasks: slices.Clone(s.Tasks)}
			for i, y := range x.Tasks {
				y.Mode, y.Q, y.Theta = api.Fixed, 0, 0
				x.Tasks[i] = []api.Task{y, floats(y, 0), floats(y, 1), floats(y, api.MaxTime), floats(y, r.Int63n(api.MaxTime)), threshs(y, 0), threshs(y, i), threshs(y, r.Intn(i+1))}[r.Intn(8)]
			}
			if want == nil {
				wantNone(t, x)
				continue
			}
			wantQ(t, x, want...)
			if !isAccepted(t, x) {
				met++
			}
		}
	}
	if met < 30 {
		t.Errorf("only %d that are not accepted as they are", met)
	}
	for i, y := range []api.Task{one(900, 9), floats(one(900, 9), 0), floats(one(900, 9), 5), floats(one(900, 9), api.MaxTime), threshs(one(900, 9), 0), threshs(one(900, 9), 1)} {
		wantQ(t, setOf(0, one(100, 10), y, y), 10, 90, 90)
		if i < 5 {
			wantQ(t, setOf(0, y, y, y), 9, 891, 882)
		}
	}
}

// All else is as it was: names, periods, deadlines, regions, cache sets, Reload.
func TestP15_1Rest(t *testing.T) {
	s := api.Set{Reload: 9, Tasks: []api.Task{
		{Name: "z9z", T: 500, D: 490, Mode: api.Thresh, Regions: []int64{3, 1, 2}, ECB: all, UCB: 1 << 63}, {Name: "a", T: 8000, D: 6000, Mode: api.Float, Q: 44, Regions: []int64{7}, ECB: 0b1111, UCB: 0b101}, {Name: "abcdefghijkl", T: 900, D: 900, Mode: api.Thresh, Theta: 2, Regions: []int64{1, 1, 1, 1, 1, 1, 1, 8}}, {Name: "mm", T: 10000, D: 10000, Regions: []int64{20, 30}, ECB: 0b10},
	}}
	want := api.Set{Reload: 9, Tasks: []api.Task{
		{Name: "z9z", T: 500, D: 490, Mode: api.Float, Q: 6, Regions: []int64{3, 1, 2}, ECB: all, UCB: 1 << 63}, {Name: "a", T: 8000, D: 6000, Mode: api.Float, Q: 484, Regions: []int64{7}, ECB: 0b1111, UCB: 0b101}, {Name: "abcdefghijkl", T: 900, D: 900, Mode: api.Float, Q: 484, Regions: []int64{1, 1, 1, 1, 1, 1, 1, 8}}, {Name: "mm", T: 10000, D: 10000, Mode: api.Float, Q: 484, Regions: []int64{20, 30}, ECB: 0b10},
	}}
	if x, ok := Put(s); !ok || !reflect.DeepEqual(x, want) {
		t.Fatalf("%+v, want %+v", x, want)
	}
	for n := int64(0); n <= api.MaxTime; n += 2500 {
		s.Reload = n
		wantLongest(t, s)
	}
}

// pick is one of several numbers, by chance.
func pick(r *rand.Rand, l ...int64) int64 { return l[r.Intn(len(l))] }

// anyTask is a task that may be at a place, has a period of at most so many ticks, and asks for about a part of the time.
func anyTask(r *rand.Rand, at int, most int64, part float64) api.Task {
	x := one(1 + r.Int63n(most))
	left := min(x.T, 1+int64(2*r.Float64()*part*float64(x.T)))
	for range r.Intn(api.MaxRegions) {
		if left > 1 {
			n := 1 + r.Int63n(left-1)
			x.Regions = append(x.Regions, n)
			left -= n
		}
	}
	x.Regions = append(x.Regions, left)
	x.D = pick(r, x.T, work(x), work(x)+r.Int63n(x.T-work(x)+1))
	switch x.Mode = r.Intn(3); x.Mode {
	case api.Float:
		x.Q = pick(r, 0, 1, work(x), api.MaxTime)
	case api.Thresh:
		x.Theta = r.Intn(at + 1)
	}
	x.ECB = []uint64{0, 1, 1 << 63, all, r.Uint64(), r.Uint64() & r.Uint64() & r.Uint64()}[r.Intn(6)]
	x.UCB = x.ECB & []uint64{0, all, r.Uint64(), r.Uint64() & r.Uint64() & r.Uint64()}[r.Intn(4)]
	return x
}

// anySet is a set that may be, and that is accepted about every other time.
func anySet(r *rand.Rand) api.Set {
	var l []api.Task
	n := 1 + r.Intn(api.MaxTasks)
	part := []float64{0.02, 0.1, 0.3, 0.6, 0.9, 1.2}[r.Intn(6)] / float64(n)
	late, inOrder := r.Intn(4) > 0, r.Intn(3) > 0
	most := pick(r, 20, 300, 3000, api.MaxTime)
	for at := range n {
		period := most
		if inOrder {
			period = min(most, (most*int64(at)/int64(n)+7)*3/2)
		}
		x := anyTask(r, at, period, part)
		if late {
			x.D = x.T
		}
		l = append(l, x)
	}
	if inOrder {
		slices.SortStableFunc(l, func(a, b api.Task) int { return int(a.D - b.D) })
		for at := range l {
			l[at].Theta = min(l[at].Theta, at)
		}
	}
	return setOf(pick(r, 0, 0, 0, 0, 1, 2, 5, r.Int63n(api.MaxTime+1)), l...)
}

func TestP15_1ByChance(t *testing.T) {
	r := rand.New(rand.NewSource(153))
	met := map[string]int{}
	for range 1000 {
		s := anySet(r)
		l := wantLongest(t, s)
		switch {
		case l == nil:
			met["none"]++
		case len(l) == 1:
			met["one"]++
		case len(l) == api.MaxTasks:
			met["eight"]++
		}
		for i := 1; i < len(l); i++ {
			switch {
			case l[i] == 0:
				met["0"]++
			case i > 1 && l[i] < l[i-1]:
				met["falls"]++
			case i > 1 && l[i] == l[i-1]:
				met["stays"]++
			}
		}
	}
	for _, x := range []string{"none", "one", "eight", "0", "falls", "stays"} {
		if met[x] < 20 {
			t.Errorf("not enough of %s: %v", x, met)
		}
	}
}

// By what All of toler tells, and by Of, both calls tell the same.
func TestP15_1Both(t *testing.T) {
	r := rand.New(rand.NewSource(154))
	for range 300 {
		s := anySet(r)
		bear, has := toler.All(s)
		l, ok := Of(s)
		x, is := Put(s)
		if ok != has || is != has || len(l) != len(bear) || len(x.Tasks) != len(bear) {
			t.Fatalf("%+v: %v, %t; %v, %t; %+v, %t", s, bear, has, l, ok, x, is)
		}
		for i, q := range l {
			switch {
			case x.Tasks[i].Q != q:
				t.Fatalf("%+v: %v, %+v", s, l, x)
			case i == 0 && q != task.Work(s.Tasks[0]):
				t.Fatalf("%+v: %v", s, l)
			case i > 0 && q != slices.Min(bear[:i]):
				t.Fatalf("%+v: bears %v, %v", s, bear, l)
			}
		}
	}
}

// What is Put is accepted, with one more it is not.
func TestP15_2OneMore(t *testing.T) {
	for _, x := range []struct {
		s              api.Set
		refused, still int
	}{
		{example(), 0, 0}, {falling(), 0, 3}, {setOf(0, one(10, 2), due(one(20, 5), 18), due(one(100, 10), 90)), 1, 1}, {setOf(0, one(1000, 900), one(10000, 101)), 0, 1}, {setOf(0, one(1000, 900), one(10000, 102)), 1, 0}, {setOf(0, one(1000, 900), one(10000, 99)), 0, 1},
		{setOf(0, one(2, 1), one(3, 1), one(6, 1)), 0, 2}, {setOf(0, one(2, 1), one(3, 1), one(12, 2)), 1, 1}, {setOf(0, one(8, 1), due(one(8, 2), 3), one(16, 7)), 1, 1}, {eight(9, 0, 7, 0, 5, 4, 3, 2), 6, 1}, {eight(9, 8, 7, 6, 5, 4, 3, 2), 6, 1},
		{setOf(1, one(50, 40), touches(one(1000, 4), 0b1111111, 0b111111)), 0, 1}, {setOf(1, one(50, 40), touches(one(1000, 4), 0b1111111, 0b1111111)), 0, 1}, {setOf(1, one(50, 40), touches(one(1000, 4), 0b11111111, 0b11111111)), 1, 0},
		{setOf(7, touches(one(50, 30), 0b1, 0), touches(one(900, 1), 0b10, 0b10), touches(one(900, 14), 0b1, 0b1)), 0, 2}, {setOf(7, touches(one(50, 30), 0b1, 0), touches(one(900, 7, 8), 0b1, 0b1)), 1, 0},
	} {
		refused, still := wantNoMore(t, x.s)
		if refused != x.refused || still != x.still {
			l, _ := Of(x.s)
			t.Errorf("%+v: %v: %d, %d, want %d, %d", x.s, l, refused, still, x.refused, x.still)
		}
	}
}

// A Q of 0, where one ahead bears just 0: a task of one tick is never in the way, one of two is with a Q of 1.
func TestP15_2Zero(t *testing.T) {
	for _, c := range []int64{1, 2, 3, 10} {
		s := setOf(0, due(one(100, 10), 10), one(1000, c))
		wantQ(t, s, 10, 0)
		refused, _ := wantNoMore(t, s)
		if (refused == 1) != (c > 1) {
			t.Errorf("%d: %d", c, refused)
		}
		x, _ := Put(s)
		if c == 1 && !isAccepted(t, with(x, 1, api.MaxTime)) {
			t.Error("one tick is in the way")
		}
	}
	s := setOf(3, due(touches(one(100, 10), 1, 0), 10), touches(one(1000, 1), 1, 1))
	wantQ(t, s, 10, 0)
	if refused, _ := wantNoMore(t, s); refused != 1 { // what it loads again is in the way
		t.Error(refused)
	}
}

// A Q greater than a task's work and what it loads again: no longer one is refused.
func TestP15_2Greater(t *testing.T) {
	for _, s := range []api.Set{falling(), setOf(0, one(10000, 1), one(10000, 9999)), setOf(0, one(10000, 1), one(10000, 9), one(10000, 9)), setOf(2, touches(one(1000, 9), 1, 0), touches(one(2000, 20), 0b111, 0b111)), setOf(0, one(1000, 500), due(one(10000, 400), 1500))} {
		x, ok := Put(s)
		if !ok {
			t.Fatalf("%+v: nothing", s)
		}
		for i, y := range x.Tasks {
			if i > 0 && y.Q < work(y)+own(x, i)-1 {
				t.Fatalf("%+v: %d has a less one", x, i)
			}
			for _, q := range []int64{y.Q + 1, 2 * y.Q, api.MaxTime} {
				if q <= api.MaxTime && !isAccepted(t, with(x, i, q)) {
					t.Errorf("%+v: %d of %d is refused", x, q, i)
				}
			}
		}
	}
	wantQ(t, setOf(0, one(10000, 1), one(10000, 9), one(10000, 9)), 1, 9999, 9990)
}

// With any Q the first task stands in nobody's way.
func TestP15_2First(t *testing.T) {
	r := rand.New(rand.NewSource(155))
	sets := []api.Set{example(), mixed(), good(), falling(), eight(0, 0, 0, 0, 0, 0, 0, 0), limits()[0]}
	for range 100 {
		sets = append(sets, anySet(r))
	}
	for _, s := range sets {
		x, ok := Put(s)
		if !ok {
			continue
		}
		for _, q := range []int64{0, 1, x.Tasks[0].Q - 1, x.Tasks[0].Q + 1, api.MaxTime} {
			if q <= api.MaxTime && !isAccepted(t, with(x, 0, q)) {
				t.Fatalf("%+v: %d of the first task", x, q)
			}
		}
	}
}

// By chance: accepted, by the processor that works, too; with one more it is not, nor with less is it refused; and what is Put of it is the same.
func TestP15_2ByChance(t *testing.T) {
	r := rand.New(rand.NewSource(156))
	refused, still, were := 0, 0, 0
	for range 800 {
		s := anySet(r)
		x, ok := Put(s)
		if !ok {
			continue
		}
		if !isAccepted(t, s) {
			were++
		}
		n, m := wantNoMore(t, s)
		refused, still = refused+n, still+m
		if !isDone(x) {
			t.Fatalf("%+v: not in time", x)
		}
		if y, is := Put(x); !is || !task.Same(x, y) || !reflect.DeepEqual(x, y) {
			t.Fatalf("%+v: Put once more %+v", x, y)
		}
		wantQ(t, x, longest(s)...)
		for i := 1; i < len(x.Tasks); i++ {
			if q := x.Tasks[i].Q; q > 0 && !isAccepted(t, with(x, i, r.Int63n(q))) {
				t.Fatalf("%+v: refused with less of %d", x, i)
			}
		}
	}
	if refused < 300 || still < 300 || were < 50 {
		t.Errorf("not enough of each: %d, %d, %d", refused, still, were)
	}
}

// In every way what is Put is as long as may be: with all other Qs at 0, a task's Q is accepted just if it is no greater than what is told, or as long as the task stands in no way by more.
func TestP15_2EachQ(t *testing.T) {
	r := rand.New(rand.NewSource(157))
	sets := []api.Set{example(), mixed(), good(), falling(), eight(9, 8, 7, 6, 5, 4, 3, 2), eight(9, 0, 7, 0, 5, 4, 3, 2), setOf(0, one(20, 4), due(one(90, 20), 50), one(90, 30))}
	for range 60 {
		sets = append(sets, anySet(r))
	}
	met := map[bool]int{}
	for _, s := range sets {
		x, ok := Put(s)
		if !ok {
			continue
		}
		l, _ := Of(s)
		for i := range x.Tasks {
			x.Tasks[i].Q = 0
		}
		for i := 1; i < len(l); i++ {
			long := work(x.Tasks[i]) + own(x, i) - 1
			for q := int64(0); q <= min(long, api.MaxTime); q += 1 + long/50 {
				if is := isAccepted(t, with(x, i, q)); is != (q <= l[i]) {
					t.Fatalf("%d of %d in %+v: %t, want at most %d", q, i, x, is, l[i])
				}
				met[q <= l[i]]++
			}
		}
	}
	if met[true] < 500 || met[false] < 500 {
		t.Errorf("not enough of each: %v", met)
	}
}

// kinds are tasks of a period of up to five ticks, with and without a cache set, the modes in turn.
func kinds(at int, period int64) []api.Task {
	var l []api.Task
	for c := int64(1); c <= period; c++ {
		for d := c; d <= period; d++ {
			x := due(one(period, c), d)
			if c > 1 && d%2 == 0 {
				x.Regions = []int64{c - 1, 1}
			}
			for _, y := range []api.Task{x, touches(x, 1, 1)} {
				l = append(l, []api.Task{y, floats(y, d), threshs(y, at)}[len(l)%3])
			}
		}
	}
	return l
}

// All sets of up to two short tasks, and many of three.
func TestP15_2AllSmall(t *testing.T) {
	met := map[string]int{}
	ask := func(l ...api.Task) {
		s := setOf(1, l...)
		if wantLongest(t, s) == nil {
			met["none"]++
			return
		}
		refused, still := wantNoMore(t, s)
		met["refused"] += refused
		met["still"] += still
		if x, _ := Put(s); !isDone(x) {
			t.Fatalf("%+v: not in time", x)
		}
	}
	for _, periods := range [][]int64{{1}, {2}, {3}, {4}, {5}, {1, 1}, {2, 1}, {2, 2}, {2, 3}, {3, 2}, {3, 4}, {4, 3}, {4, 4}} {
		for _, a := range kinds(0, periods[0]) {
			if len(periods) == 1 {
				ask(a)
				continue
			}
			for _, b := range kinds(1, periods[1]) {
				ask(a, b)
			}
		}
	}
	three := [][]api.Task{kinds(0, 3), kinds(1, 4), kinds(2, 5)}
	for i, a := range three[0] {
		for k, b := range three[1] {
			for n := (i + k) % 8; n < len(three[2]); n += 8 {
				ask(a, b, three[2][n])
			}
		}
	}
	if met["none"] < 500 || met["refused"] < 20 || met["still"] < 200 {
		t.Errorf("not enough of each: %v", met)
	}
}

// spoiled are sets that may not be, each by one fault, in a task of each place or in the set itself.
func spoiled() []api.Set {
	var l []api.Set
	whole := func(change func(s *api.Set)) {
		s := good()
		change(&s)
		l = append(l, s)
	}
	each := func(change func(t *api.Task)) {
		for i := range 3 {
			whole(func(s *api.Set) { change(&s.Tasks[i]) })
		}
	}
	for _, n := range []int64{-1, api.MaxTime + 1, math.MinInt64, math.MaxInt64, -1 << 32, 1 << 32} {
		whole(func(s *api.Set) { s.Reload = n })
		each(func(t *api.Task) { t.T = n })
		each(func(t *api.Task) { t.D = n })
		each(func(t *api.Task) { t.T, t.D = n, n })
		each(func(t *api.Task) { t.Mode, t.Q = api.Float, n })
		each(func(t *api.Task) { t.Mode, t.Theta = api.Thresh, int(n) })
		each(func(t *api.Task) { t.Mode = int(n) })
		each(func(t *api.Task) { t.Regions = []int64{n} })
		each(func(t *api.Task) { t.Regions = []int64{n, 1} })
	}
	for _, name := range []string{"", "A", "9", "task", " a", "a ", "a#", "é", "\xff", "abcdefghijklm", strings.Repeat("a", 1<<10)} {
		each(func(t *api.Task) { t.Name = name })
	}
	each(func(t *api.Task) { t.Regions = nil })
	each(func(t *api.Task) { t.Regions = []int64{} })
	each(func(t *api.Task) { t.Regions = []int64{0} })
	each(func(t *api.Task) { t.Regions = slices.Repeat([]int64{1}, api.MaxRegions+1) })
	each(func(t *api.Task) { t.T, t.D = 0, 0 })
	each(func(t *api.Task) { t.D = 1 })
	each(func(t *api.Task) { t.T-- })
	each(func(t *api.Task) { t.Q = 1 })
	each(func(t *api.Task) { t.Theta = 1 })
	each(func(t *api.Task) { t.Mode, t.Theta = api.Thresh, 3 })
	each(func(t *api.Task) { t.Mode = 3 })
	each(func(t *api.Task) { t.UCB = 0b1000 })
	each(func(t *api.Task) { t.UCB = all })
	whole(func(s *api.Set) { s.Tasks[2].Name = s.Tasks[0].Name })
	whole(func(s *api.Set) { s.Tasks[2].Name = s.Tasks[1].Name })
	for _, n := range []int{api.MaxTasks + 1, api.MaxTasks + 2, 64, 65} {
		l = append(l, setOf(4, slices.Repeat([]api.Task{touches(one(900, 9), all, all)}, n)...))
	}
	return append(l, api.Set{}, setOf(4), api.Set{Reload: 4, Tasks: []api.Task{}}, api.Set{Reload: 4, Tasks: good().Tasks[:0]}, api.Set{Tasks: make([]api.Task, 3)})
}

func TestP15_1SetsThatMayNotBe(t *testing.T) {
	for _, s := range spoiled() {
		wantNoSet(t, s)
	}
	wantNoSet(t, api.Set{})
	wantNoSet(t, api.Set{Tasks: []api.Task{}})
	wantNoSet(t, api.Set{Reload: 4})
	wantNoSet(t, api.Set{Reload: -1})
	wantNoSet(t, setOf(-1, example().Tasks...))
	wantNoSet(t, setOf(0, one(5, 6)))
	wantNoSet(t, setOf(0, due(one(5, 2), 6)))
	wantNoSet(t, setOf(0, due(one(5, 2), 1)))
	wantQ(t, good(), 12, 888, 673)
}

// A fault is one of the whole set: no other task has a Q, either.
func TestP15_1FaultsOfAll(t *testing.T) {
	faults := []api.Task{one(100, 101), due(one(100, 1), 101), one(100), one(100, 0), touches(one(100, 1), 1, 2), threshs(one(100, 1), 9), floats(one(100, 1), -1), floats(one(100, 1), api.MaxTime+1), {}}
	for _, s := range []api.Set{example(), later(), mixed(), good(), falling(), limits()[0]} {
		for _, f := range faults {
			for at := range len(s.Tasks) + 1 {
				wantNoSet(t, setOf(0, slices.Insert(slices.Clone(s.Tasks), at, f)...))
			}
		}
		for _, n := range []int64{-1, api.MaxTime + 1} {
			wantNoSet(t, setOf(n, s.Tasks...))
		}
		for i := range s.Tasks {
			x := setOf(0, append(slices.Clone(s.Tasks), one(100, 1))...)
			x.Tasks[len(s.Tasks)].Name = x.Tasks[i].Name
			wantNoSet(t, x)
		}
		for n := api.MaxTasks; n < api.MaxTasks+3; n++ {
			wantNoSet(t, setOf(0, append(slices.Clone(s.Tasks), slices.Repeat([]api.Task{one(100, 1)}, n-len(s.Tasks)+1)...)...))
		}
	}
}

// Of very many tasks there is nothing, and it is told soon.
func TestW1VeryMany(t *testing.T) {
	wantNoSet(t, setOf(4, slices.Repeat([]api.Task{touches(one(900, 9), all, all)}, 1<<16)...))
	wantNoSet(t, setOf(4, one(900, slices.Repeat([]int64{1}, 1<<16)...)))
	wantNoSet(t, api.Set{Tasks: []api.Task{{Name: strings.Repeat("a", 1<<20), T: 5, D: 5, Regions: []int64{1}}}})
}

// Sets of which the processor is busy for very long: it ends, too.
func TestW1VeryLong(t *testing.T) {
	for _, s := range []api.Set{
		setOf(api.MaxTime, one(2, 1), touches(one(10000, 1), 1<<50-1, 1<<50-1)), setOf(0, one(1000, 100), one(999, 90), one(998, 90), one(2, 1), one(10000, 4900)),
		setOf(api.MaxTime, slices.Repeat([]api.Task{touches(one(10000, 1), all, all)}, api.MaxTasks)...), setOf(0, slices.Repeat([]api.Task{one(8, 1)}, api.MaxTasks)...),
		setOf(0, slices.Repeat([]api.Task{one(10000, 1250)}, api.MaxTasks)...), setOf(0, one(10000, 4900), one(9999, 90), one(2, 1)), setOf(0, one(10000, 4999), one(2, 1)),
	} {
		if wantLongest(t, s) != nil {
			wantNoMore(t, s)
		}
	}
}

// spared is a set with room behind its lists' ends, and all of that room.
func spared(s api.Set) (api.Set, []api.Task, [][]int64) {
	tasks := append(slices.Clone(s.Tasks), touches(one(9000, 900), all, all), touches(one(8000, 800), all, all))
	tasks[len(s.Tasks)].Name, tasks[len(s.Tasks)+1].Name = "spare", "room"
	var rows [][]int64
	for i := range tasks {
		row := append(slices.Clone(tasks[i].Regions), 7777, 8888)
		rows = append(rows, row)
		tasks[i].Regions = row[:len(row)-2]
	}
	return api.Set{Reload: s.Reload, Tasks: tasks[:len(s.Tasks)]}, tasks, rows
}

// What is handed in is as it was, its lists' spare room too; and that room is no part of the set.
func TestW6HandedIn(t *testing.T) {
	r := rand.New(rand.NewSource(158))
	sets := append(spoiled(), example(), mixed(), good(), falling(), eight(), later())
	for range 300 {
		sets = append(sets, anySet(r))
	}
	for _, s := range sets {
		x, tasks, rows := spared(s)
		_, wantTasks, wantRows := spared(s)
		if task.All(s) {
			wantLongest(t, x)
		} else {
			wantNoSet(t, x)
		}
		if !reflect.DeepEqual(tasks, wantTasks) || !reflect.DeepEqual(rows, wantRows) || x.Reload != s.Reload {
			t.Fatalf("%+v has changed: %+v, %v", s, tasks, rows)
		}
	}
}

// spoil writes over a list, and over the room behind its end.
func spoil(l []int64) {
	l = l[:cap(l)]
	for i := range l {
		l[i] = -77
	}
}

// spoilSet writes over all of a set, and over the room behind its lists' ends.
func spoilSet(s api.Set) {
	for i := range s.Tasks {
		spoil(s.Tasks[i].Regions)
	}
	l := s.Tasks[:cap(s.Tasks)]
	for i := range l {
		l[i] = api.Task{Name: "spoiled", Q: -77, Theta: -7, T: -7, Regions: []int64{-7}}
	}
}

// Each answer is its own: neither another answer's, nor a part of what was handed in.
func TestW6AnswersApart(t *testing.T) {
	r := rand.New(rand.NewSource(159))
	sets := []api.Set{example(), mixed(), good(), falling(), eight(), setOf(0, one(4, 2), one(6, 2)), later()}
	for range 200 {
		sets = append(sets, anySet(r))
	}
	for _, s := range sets {
		x, tasks, rows := spared(s)
		_, wantTasks, wantRows := spared(s)
		list, _ := Of(x)
		other, _ := Of(x)
		put, _ := Put(x)
		twice, _ := Put(x)
		wantList, want := fmt.Sprint(other), fmt.Sprint(twice)
		spoil(list)
		if fmt.Sprint(other) != wantList || fmt.Sprint(put) != want {
			t.Fatalf("%+v: shares memory: %v, %+v, want %s", s, other, put, wantList)
		}
		spoilSet(put)
		if fmt.Sprint(twice) != want || !reflect.DeepEqual(tasks, wantTasks) || !reflect.DeepEqual(rows, wantRows) {
			t.Fatalf("%+v: shares memory: %+v, want %s", s, twice, want)
		}
		list, _ = Of(x)
		put, _ = Put(x)
		if fmt.Sprint(list) != wantList || fmt.Sprint(put) != want {
			t.Fatalf("%+v: %v, %+v behind a change, want %s, %s", s, list, put, wantList, want)
		}
		for i := range tasks {
			tasks[i] = api.Task{}
			spoil(rows[i])
		}
		if fmt.Sprint(other) != wantList || fmt.Sprint(twice) != want {
			t.Fatalf("%+v: keeps what was handed in: %v, %+v", s, other, twice)
		}
	}
}

// No two lists of one answer share any memory, not even where they did when they were handed in.
func TestW6ListsApart(t *testing.T) {
	row := []int64{1, 2, 3, 4, 5, 6, 7}
	s := setOf(0, one(900, 9), one(900, 9), one(900, 9), one(900, 9))
	s.Tasks[0].Regions, s.Tasks[1].Regions, s.Tasks[2].Regions = row[:3], row[:3], row[1:2]
	x, ok := Put(s)
	if !ok {
		t.Fatal("nothing")
	}
	for i := range x.Tasks {
		want := fmt.Sprint(x.Tasks[:i], x.Tasks[i+1:])
		l := x.Tasks[i].Regions
		spoil(l)
		if got := fmt.Sprint(x.Tasks[:i], x.Tasks[i+1:]); got != want {
			t.Fatalf("%s, want %s", got, want)
		}
	}
	if !slices.Equal(row, []int64{1, 2, 3, 4, 5, 6, 7}) {
		t.Error(row)
	}
}

// An answer hangs on nothing that was asked ahead of it, and stays what it is.
func TestW2AskedAgain(t *testing.T) {
	r := rand.New(rand.NewSource(160))
	sets := []api.Set{example(), mixed(), {}, good(), falling(), later(), eight(), setOf(-1, one(5, 1), one(9, 2))}
	for range 6 {
		sets = append(sets, anySet(r))
	}
	for _, s := range sets {
		l, ok := Of(s)
		x, is := Put(s)
		want, wantPut := fmt.Sprint(l, ok), fmt.Sprint(x, is)
		for _, other := range sets {
			Of(other)
			Put(other)
			again, still := Of(s)
			y, was := Put(s)
			if fmt.Sprint(again, still) != want || fmt.Sprint(y, was) != wantPut || fmt.Sprint(l, ok) != want || fmt.Sprint(x, is) != wantPut {
				t.Fatalf("%+v: %v, %t; %+v, want %s", s, again, still, y, want)
			}
		}
	}
}

// An answer stays what it is, whatever is asked later.
func TestW7Stays(t *testing.T) {
	r := rand.New(rand.NewSource(161))
	var l [][]int64
	var put []api.Set
	var want []string
	for range 200 {
		s := anySet(r)
		n, _ := Of(s)
		x, _ := Put(s)
		l, put, want = append(l, n), append(put, x), append(want, fmt.Sprint(n, x))
	}
	for i, n := range l {
		if fmt.Sprint(n, put[i]) != want[i] {
			t.Fatalf("%v, %+v was %s", n, put[i], want[i])
		}
	}
}
