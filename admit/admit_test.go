package admit

import (
	"fmt"
	"math"
	"math/big"
	"math/rand"
	"reflect"
	"slices"
	"strings"
	"testing"

	"taskmaster/api"
	"taskmaster/resp"
	"taskmaster/task"
)

const (
	all = math.MaxUint64
	top = int64(api.Top)
)

// accept, miss and limit are verdicts of each kind.
func accept(l ...int64) api.Verdict { return api.Verdict{How: api.Accept, R: l} }
func miss(i int) api.Verdict        { return api.Verdict{How: api.Miss, Task: i} }
func limit(i int) api.Verdict       { return api.Verdict{How: api.Limit, Task: i} }

// one is a task of a period, without a name.
func one(period int64, regions ...int64) api.Task {
	return api.Task{T: period, D: period, Regions: regions}
}

// due is a task that is to be done within a shorter time.
func due(t api.Task, deadline int64) api.Task {
	t.D = deadline
	return t
}

// floats and threshs are a task in another mode.
func floats(t api.Task, q int64) api.Task {
	t.Mode, t.Q = api.Float, q
	return t
}
func threshs(t api.Task, theta int) api.Task {
	t.Mode, t.Theta = api.Thresh, theta
	return t
}

// touches is a task that touches cache sets, and needs some of them again.
func touches(t api.Task, ecb, ucb uint64) api.Task {
	t.ECB, t.UCB = ecb, ucb
	return t
}

// setOf is a set of tasks, which have names by their places.
func setOf(reload int64, l ...api.Task) api.Set {
	s := api.Set{Reload: reload, Tasks: slices.Clone(l)}
	for i := range s.Tasks {
		s.Tasks[i].Name = fmt.Sprint("t", i)
	}
	return s
}

// example is the chapter's: two tasks: T 4, 2 ticks; T 6, D 6, 3 ticks.
func example() api.Set { return setOf(0, one(4, 2), one(6, 3)) }

// later is a set that is not accepted: its last task stands too long in the way of the first one, and of its own jobs the fifth takes longest, too long as well.
func later() api.Set { return setOf(0, one(70, 26), one(100, 62)) }

// mixed is a set that is accepted, in which what is ahead makes others load something, or nothing, whose periods are in no order, and which has each mode.
func mixed() api.Set {
	return setOf(3, touches(one(900, 20, 7), 0b1011, 0b10), touches(one(70, 5), 0b100, 0b100), threshs(touches(one(9000, 4, 4, 4), 0b11, 0b1), 1),
		floats(one(200, 9), 6), touches(one(1000, 10, 8, 12), 0b1001, 0b1000))
}

// eight is a set of as many tasks as may be, of ten ticks each, every one of which is just in time.
func eight() api.Set {
	s := setOf(0, slices.Repeat([]api.Task{one(1000, 10)}, api.MaxTasks)...)
	for i, r := range eightBounds() {
		s.Tasks[i].D = r
	}
	return s
}

// eightBounds is how long each of eight takes: itself and all that is ahead, and, but the last, a lower one's ten ticks less a tick.
func eightBounds() []int64 { return []int64{19, 29, 39, 49, 59, 69, 79, 80} }

// wantVerdict asks for one verdict of a set that may be.
func wantVerdict(t *testing.T, s api.Set, want api.Verdict) {
	t.Helper()
	v, e := Judge(s)
	if e != api.OK || v.How != want.How || v.Task != want.Task || !slices.Equal(v.R, want.R) {
		t.Fatalf("%+v: %+v, %d, want %+v", s, v, e, want)
	}
}

// wantErrArg asks for ErrArg, and a verdict that tells nothing.
func wantErrArg(t *testing.T, s api.Set) {
	t.Helper()
	v, e := Judge(s)
	if e != api.ErrArg || v.How != 0 || v.Task != 0 || len(v.R) != 0 {
		t.Fatalf("%d tasks: %+v, %d, want ErrArg", len(s.Tasks), v, e)
	}
}

// digits is the cache sets, as they are written.
func digits(x uint64) string { return fmt.Sprintf("%064b", x) }

// work is the ticks of a task, summed here.
func work(x api.Task) int64 {
	n := int64(0)
	for _, r := range x.Regions {
		n += r
	}
	return n
}

// comes is what comes to the processor: of what is ahead a job's work, and one Reload for each cache set that it takes from whatever is lower than it; behind them the task itself.
func comes(s api.Set, i int) []api.Load {
	var l []api.Load
	for j := 0; j < i; j++ {
		c, taken := work(s.Tasks[j]), map[int]int{}
		for _, lower := range s.Tasks[j+1:] {
			needed := digits(lower.UCB)
			for k, d := range digits(s.Tasks[j].ECB) {
				if d == '1' && needed[k] == '1' {
					taken[k]++
				}
			}
		}
		l = append(l, api.Load{T: s.Tasks[j].T, C: c + s.Reload*int64(len(taken))})
	}
	return append(l, api.Load{T: s.Tasks[i].T, C: work(s.Tasks[i])})
}

// isFull tells whether no time is left: in each time from 1 on more comes than it is long.
func isFull(l []api.Load, block int64) bool {
	part := new(big.Rat)
	for _, x := range l {
		part.Add(part, big.NewRat(x.C, x.T))
	}
	more := part.Cmp(big.NewRat(1, 1))
	return more > 0 || more == 0 && block > 0
}

// desk is what waits for the processor: what is ahead and the block, and behind them the task's own jobs, first come, first done.
type desk struct {
	now, first int64
	came, left []int64 // of each own job
	longest    int64   // of those that are done
}

// come is a job of the task that comes.
func (d *desk) come(c int64) { d.came, d.left = append(d.came, d.now), append(d.left, c) }

// do works for some ticks, or until nothing is left.
func (d *desk) do(ticks int64) {
	n := min(ticks, d.first)
	d.first, d.now, ticks = d.first-n, d.now+n, ticks-n
	for ticks > 0 && len(d.left) > 0 {
		n = min(ticks, d.left[0])
		d.left[0], d.now, ticks = d.left[0]-n, d.now+n, ticks-n
		if d.left[0] == 0 {
			d.longest = max(d.longest, d.now-d.came[0])
			d.came, d.left = d.came[1:], d.left[1:]
		}
	}
}

// idle tells whether nothing is left.
func (d *desk) idle() bool { return d.first == 0 && len(d.left) == 0 }

// told is how long a job takes, at most, and how that is judged, of a task of a set that may be: by a processor that works, from one arrival to the next one, until for the first time nothing is left.
func told(s api.Set, i int, block int64) (r int64, how int) {
	l := comes(s, i)
	if isFull(l, block) {
		return 0, api.Limit
	}
	d, next := &desk{first: block}, make([]int64, len(l))
	for {
		for k, x := range l {
			switch {
			case next[k] != d.now:
				continue
			case k == i:
				d.come(x.C)
			default:
				d.first += x.C
			}
			next[k] += x.T
		}
		d.do(slices.Min(next) - d.now)
		switch {
		case d.now > top || !d.idle() && d.now == top:
			return 0, api.Limit
		case d.idle() && d.longest <= s.Tasks[i].D:
			return d.longest, api.Accept
		case d.idle():
			return d.longest, api.Miss
		}
	}
}

// judged is the verdict of a set that may be, of what each of its tasks is told.
func judged(s api.Set) api.Verdict {
	v := accept()
	for i := len(s.Tasks) - 1; i >= 0; i-- {
		r, how := told(s, i, most(s, i))
		switch {
		case how != api.Accept:
			v = api.Verdict{How: how, Task: i}
		case v.How == api.Accept:
			v.R = append([]int64{r}, v.R...)
		}
	}
	return v
}

// wantJudged asks for that verdict.
func wantJudged(t *testing.T, s api.Set) api.Verdict {
	t.Helper()
	if !task.All(s) {
		t.Fatalf("a set that may not be: %+v", s)
	}
	v := judged(s)
	wantVerdict(t, s, v)
	return v
}

// most is how long the lower ones stand in the way, by chapter 9.
func most(s api.Set, i int) int64 {
	n := int64(0)
	for _, x := range s.Tasks[i+1:] {
		own := s.Reload * int64(strings.Count(digits(x.UCB), "1"))
		switch {
		case x.Mode == api.Fixed:
			n = max(n, slices.Max(x.Regions)+own-1)
		case x.Mode == api.Float:
			n = max(n, min(x.Q, work(x)+own-1))
		case x.Theta <= i:
			n = max(n, work(x)+own-1)
		}
	}
	return n
}

func TestP13_1Example(t *testing.T) {
	wantVerdict(t, example(), miss(1))
	s := example()
	s.Tasks[1].Regions[0] = 2
	wantVerdict(t, s, accept(3, 4))
	wantVerdict(t, setOf(0, one(4, 2)), accept(2))
}

// Sets whose bounds are reckoned by hand.
func TestP13_1ByHand(t *testing.T) {
	for _, x := range []struct {
		s    api.Set
		want api.Verdict
	}{
		{mixed(), accept(41, 52, 64, 78, 94)}, {good(), accept(26, 38, 41)}, {eight(), accept(eightBounds()...)},
		{setOf(0, one(5, 2)), accept(2)}, {setOf(0, one(1, 1)), accept(1)}, {setOf(0, one(1, 1), one(10000, 1)), limit(1)}, {setOf(0, one(1, 1), one(10000, 2)), limit(0)},
		{setOf(0, one(2, 1), one(2, 1)), accept(1, 2)}, {setOf(0, one(2, 1), one(3, 1), one(6, 1)), accept(1, 2, 6)}, {setOf(0, one(2, 1), one(3, 1), one(7, 1)), accept(1, 2, 6)},
		{setOf(0, one(2, 1), one(3, 1), due(one(6, 1), 5)), miss(2)}, {setOf(0, one(2, 1), one(3, 1), one(5, 1)), limit(2)}, {setOf(0, one(2, 1), one(4, 1, 1), one(10000, 1)), limit(2)},
		{later(), miss(0)}, {setOf(0, one(70, 26), floats(one(100, 62), 0)), miss(1)}, {setOf(0, one(70, 26), floats(one(100, 62), 44)), miss(1)}, {setOf(0, one(70, 26), floats(one(100, 62), 45)), miss(0)},
		{setOf(0, one(70, 25), one(100, 46)), accept(70, 96)}, {setOf(0, one(70, 25), one(100, 47)), miss(0)}, {setOf(0, one(70, 25), floats(one(100, 50), 5)), accept(30, 100)},
	} {
		wantVerdict(t, x.s, x.want)
		wantJudged(t, x.s)
	}
}

// Sets of each size that are accepted: the bounds are those of their tasks, in their order.
func TestP13_1AllAccept(t *testing.T) {
	for n := 1; n <= api.MaxTasks; n++ {
		l := slices.Clone(eightBounds()[:n])
		l[n-1] = int64(10 * n) // nothing is lower than the last one
		s := setOf(0, eight().Tasks[:n]...)
		wantVerdict(t, s, accept(l...))
		v, _ := Judge(s)
		if v.Task != 0 || len(v.R) != n {
			t.Errorf("%d tasks: %+v", n, v)
		}
	}
	// bounds that neither rise nor fall
	wantVerdict(t, setOf(0, due(one(9000, 10), 8000), due(one(8000, 1), 6000), due(one(7000, 3), 7000), floats(one(9999, 5000), 4)), accept(14, 15, 18, 5014))
	wantVerdict(t, setOf(0, one(9000, 10), threshs(one(8000, 90), 0), one(7000, 3)), accept(99, 102, 103))
	wantVerdict(t, setOf(0, one(9000, 10), one(8000, 3), threshs(one(7000, 90), 0)), accept(99, 102, 103))
}

// The first that is not Accept, in each place: of Miss, and of Limit.
func TestP13_1First(t *testing.T) {
	for i := range api.MaxTasks {
		s := eight()
		s.Tasks[i].D--
		wantVerdict(t, s, miss(i))
		s.Tasks[i].D++
		wantVerdict(t, s, accept(eightBounds()...))
		s.Tasks[i].T, s.Tasks[i].D, s.Tasks[i].Regions = 1, 1, []int64{1}
		if i > 0 {
			wantVerdict(t, s, limit(i))
			continue
		}
		wantVerdict(t, s, limit(0)) // as ten ticks stand in its way
	}
	for n := 2; n <= api.MaxTasks; n++ {
		for i := 1; i < n; i++ {
			s := setOf(0, slices.Repeat([]api.Task{one(10000, 1)}, n)...)
			s.Tasks[i].T, s.Tasks[i].D = 1, 1
			wantVerdict(t, s, limit(i))
		}
	}
}

// Two that are not Accept, in any places: the higher one is told.
func TestP13_1TwoMiss(t *testing.T) {
	for i := range api.MaxTasks {
		for k := i + 1; k < api.MaxTasks; k++ {
			s := eight()
			s.Tasks[i].D--
			s.Tasks[k].D--
			wantVerdict(t, s, miss(i))
			s.Tasks[i].D++
			wantVerdict(t, s, miss(k))
			s.Tasks[k].D++
			wantVerdict(t, s, accept(eightBounds()...))
		}
	}
}

// A Miss ahead of a Limit.
func TestP13_1MissAheadOfLimit(t *testing.T) {
	for i := range api.MaxTasks {
		for k := i + 1; k < api.MaxTasks; k++ {
			s := eight()
			s.Tasks[k].T, s.Tasks[k].D, s.Tasks[k].Regions = 10, 10, []int64{10}
			s.Tasks[i].D--
			wantKinds(t, s, i, api.Miss)
			wantKinds(t, s, k, api.Limit)
			wantVerdict(t, s, miss(i))
			s.Tasks[i].D++
			wantVerdict(t, s, limit(k))
		}
	}
}

// wantKinds asks how one task is judged.
func wantKinds(t *testing.T, s api.Set, i, how int) {
	t.Helper()
	if _, h := resp.Of(s, i); h != how {
		t.Fatalf("%d in %+v: %d, want %d", i, s, h, how)
	}
}

// A Limit ahead of a Miss: the last task loads so much again that the processor is never done behind it, though nothing stands in the last one's own way.
func TestP13_1LimitAheadOfMiss(t *testing.T) {
	for n := 2; n <= api.MaxTasks; n++ {
		l, last := slices.Repeat([]api.Task{one(10000, 1)}, n), n-1
		l[0], l[last] = one(2, 1), due(touches(one(10000, 9), all, all), 9)
		s := setOf(api.MaxTime, l...)
		wantKinds(t, s, 0, api.Limit)
		wantKinds(t, s, last, api.Miss)
		wantVerdict(t, s, limit(0))
		s.Tasks[last].D = 9999
		wantKinds(t, s, last, api.Accept)
		wantVerdict(t, s, limit(0))
		s.Tasks[last].UCB = 0
		wantVerdict(t, s, miss(0))
		s.Tasks[last].Regions = []int64{1, 1, 1, 1, 2, 1, 1, 1}
		wantVerdict(t, s, wantJudged(t, s))
		if v, _ := Judge(s); v.How != api.Accept || v.R[0] != 2 {
			t.Errorf("%d: %+v", n, v)
		}
	}
	// in the middle: the one ahead of it waits for nothing that is lower, by any mode
	s := setOf(api.MaxTime, one(10000, 1), one(2, 1), threshs(touches(due(one(10000, 9), 9), all, all), 1))
	wantVerdict(t, s, limit(1))
	s.Tasks[2].Theta = 2
	wantVerdict(t, s, miss(2))
	s.Tasks[2].Theta = 0
	wantVerdict(t, s, miss(0))
}

// What is not accepted only for what a lower task stands in the way, in each mode.
func TestP13_1OnlyBelow(t *testing.T) {
	for ahead := range api.MaxTasks - 1 {
		l := slices.Repeat([]api.Task{one(1000, 5)}, ahead)
		own := due(one(1000, 10), int64(5*ahead+10+9))
		for _, x := range []struct {
			bad, good api.Task
		}{
			{one(1000, 11), one(1000, 10)}, {one(1000, 3, 11, 3), one(1000, 3, 10, 3)}, {one(1000, 11), one(1000, 10, 1)},
			{touches(one(1000, 10), 0b110, 0b10), touches(one(1000, 10), 0b110, 0)}, {touches(one(1000, 2), 0b111, 0b111), touches(one(1000, 1), 0b111, 0b111)},
			{floats(one(1000, 99), 10), floats(one(1000, 99), 9)}, {floats(one(1000, 11), 800), floats(one(1000, 10), 800)}, {floats(one(1000, 3, 8), 99), floats(one(1000, 3, 7), 99)},
			{threshs(one(1000, 11), ahead), threshs(one(1000, 11), ahead+1)}, {threshs(one(1000, 3, 8), ahead), threshs(one(1000, 3, 7), ahead)}, {threshs(one(1000, 900), 0), threshs(one(1000, 900), ahead+1)},
			{threshs(touches(one(1000, 2), 0b111, 0b111), ahead), threshs(touches(one(1000, 2), 0b111, 0b111), ahead+1)},
		} {
			bad, fine := setOf(3, append(l, own, x.bad)...), setOf(3, append(l, own, x.good)...)
			i := ahead
			if x.bad.Mode == api.Thresh && work(x.bad) == 900 {
				i = 0
				for k := range bad.Tasks[:ahead] {
					bad.Tasks[k].D = 899
				}
			}
			wantVerdict(t, bad, miss(i))
			wantVerdict(t, setOf(3, bad.Tasks[:ahead+1]...), wantJudged(t, setOf(3, bad.Tasks[:ahead+1]...)))
			if v, _ := Judge(setOf(3, bad.Tasks[:ahead+1]...)); v.How != api.Accept {
				t.Fatalf("%+v: not accepted without the last one: %+v", bad, v)
			}
			if v := wantJudged(t, fine); v.How != api.Accept {
				t.Fatalf("%+v: %+v", fine, v)
			}
		}
	}
}

// A lower one that stands in the way so that no time is left, in each mode.
func TestP13_1OnlyBelowLimit(t *testing.T) {
	for _, x := range []api.Task{one(10000, 2), floats(one(10000, 2), 1), threshs(one(10000, 2), 0)} {
		wantVerdict(t, setOf(0, one(1, 1), x), limit(0))
		wantVerdict(t, setOf(0, one(10, 4), one(10, 6), x), limit(1))
	}
	for _, x := range []api.Task{one(10000, 1), one(10000, 1, 1), floats(one(10000, 2), 0), threshs(one(10000, 2), 1)} {
		wantVerdict(t, setOf(0, one(1, 1), x), limit(1))
	}
	for _, x := range []api.Task{one(10000, 1), one(10000, 1, 1), floats(one(10000, 2), 0), threshs(one(10000, 2), 2)} {
		wantVerdict(t, setOf(0, floats(one(10, 4), 0), floats(one(10, 6), 0), x), limit(2))
	}
}

// Neither the names nor what is no part of a set that may be is of any weight; but for its place, where a task stands.
func TestP13_1Names(t *testing.T) {
	for _, s := range []api.Set{example(), mixed(), good(), eight(), later()} {
		want := wantJudged(t, s)
		for i := range s.Tasks {
			s.Tasks[i].Name = strings.Repeat(string(rune('z'-i)), 1+i%api.MaxName)
		}
		wantVerdict(t, s, want)
	}
	wantVerdict(t, setOf(0, due(one(100, 5), 9), one(100, 5)), accept(9, 10))
	wantVerdict(t, setOf(0, one(100, 5), due(one(100, 5), 9)), miss(1))
}

// kinds are tasks of a period of up to five ticks, each in each way.
func kinds(at int, period int64) []api.Task {
	var l []api.Task
	for c := int64(1); c <= period; c++ {
		for d := c; d <= period; d++ {
			x := due(one(period, c), d)
			l = append(l, x, touches(x, 1, 1), floats(x, 0), floats(x, 1))
			if c > 1 {
				l = append(l, due(one(period, c-1, 1), d))
			}
			for theta := range at + 1 {
				l = append(l, threshs(x, theta), threshs(touches(x, 1, 1), theta))
			}
		}
	}
	return l
}

// All sets of two short tasks, and many of three.
func TestP13_1AllSmall(t *testing.T) {
	met := map[int]int{}
	for _, periods := range [][]int64{{1}, {2}, {3}, {4}, {5}, {1, 1}, {1, 2}, {2, 1}, {2, 2}, {2, 3}, {3, 2}, {3, 3}} {
		for _, a := range kinds(0, periods[0]) {
			if len(periods) == 1 {
				met[wantJudged(t, setOf(1, a)).How]++
				continue
			}
			for _, b := range kinds(1, periods[1]) {
				met[wantJudged(t, setOf(1, a, b)).How]++
			}
		}
	}
	three := [][]api.Task{kinds(0, 3), kinds(1, 4), kinds(2, 4)}
	for i, a := range three[0] {
		for k, b := range three[1] {
			for n := (7*i + k) % 50; n < len(three[2]); n += 50 {
				met[wantJudged(t, setOf(1, a, b, three[2][n])).How]++
			}
		}
	}
	if met[api.Accept] < 1000 || met[api.Miss] < 1000 || met[api.Limit] < 1000 || len(met) != 3 {
		t.Errorf("not enough of each: %v", met)
	}
}

// pick is one of several numbers, by chance.
func pick(r *rand.Rand, l ...int64) int64 { return l[r.Intn(len(l))] }

// anyTask is a task that may be at a place, has a period of at most so many ticks, and asks for about a part of the time.
func anyTask(r *rand.Rand, at int, most int64, part float64) api.Task {
	x := one(1 + r.Int63n(most))
	left := min(x.T, 1+int64(2*r.Float64()*part*float64(x.T)))
	for range r.Intn(api.MaxRegions) {
		if left > 1 {
			n := 1 + r.Int63n(left-1)
			x.Regions = append(x.Regions, n)
			left -= n
		}
	}
	x.Regions = append(x.Regions, left)
	x.D = pick(r, x.T, work(x), work(x)+r.Int63n(x.T-work(x)+1))
	switch x.Mode = r.Intn(3); x.Mode {
	case api.Float:
		x.Q = pick(r, 0, 1, work(x), api.MaxTime)
	case api.Thresh:
		x.Theta = r.Intn(at + 1)
	}
	x.ECB = []uint64{0, 1, 1 << 63, all, r.Uint64(), r.Uint64() & r.Uint64() & r.Uint64()}[r.Intn(6)]
	x.UCB = x.ECB & []uint64{0, all, r.Uint64(), r.Uint64() & r.Uint64() & r.Uint64()}[r.Intn(4)]
	return x
}

// anySet is a set that may be, and that is accepted about every other time.
func anySet(r *rand.Rand) api.Set {
	var l []api.Task
	n := 1 + r.Intn(api.MaxTasks)
	part := []float64{0.02, 0.1, 0.3, 0.6, 0.9, 1.2}[r.Intn(6)] / float64(n)
	late, inOrder := r.Intn(4) > 0, r.Intn(3) > 0
	most := pick(r, 20, 300, 3000, api.MaxTime)
	for at := range n {
		period := most
		if inOrder {
			period = min(most, (most*int64(at)/int64(n)+7)*3/2)
		}
		x := anyTask(r, at, period, part)
		if late {
			x.D = x.T
		}
		l = append(l, x)
	}
	if inOrder {
		slices.SortStableFunc(l, func(a, b api.Task) int { return int(a.D - b.D) })
		for at := range l {
			l[at].Theta = min(l[at].Theta, at)
		}
	}
	return setOf(pick(r, 0, 0, 0, 0, 1, 2, 5, r.Int63n(api.MaxTime+1)), l...)
}

func TestP13_1ByChance(t *testing.T) {
	r := rand.New(rand.NewSource(131))
	met, places := map[int]int{}, map[int]int{}
	for range 3000 {
		s := anySet(r)
		v := wantJudged(t, s)
		met[v.How]++
		places[v.Task]++
		if len(s.Tasks) == api.MaxTasks && v.How == api.Accept {
			met[-1]++
		}
	}
	if met[api.Accept] < 500 || met[api.Miss] < 500 || met[api.Limit] < 200 || met[-1] < 20 || len(met) != 4 || len(places) != api.MaxTasks {
		t.Errorf("not enough of each: %v, %v", met, places)
	}
}

// A set is judged as its tasks are, one by one.
func TestP13_1TaskByTask(t *testing.T) {
	r := rand.New(rand.NewSource(132))
	for range 3000 {
		s := anySet(r)
		v, e := Judge(s)
		if e != api.OK || (v.How == api.Accept) != (len(v.R) == len(s.Tasks)) || v.How != api.Accept && len(v.R) > 0 {
			t.Fatalf("%+v: %+v, %d", s, v, e)
		}
		for i := range s.Tasks {
			n, how := resp.Of(s, i)
			switch {
			case v.How == api.Accept && (how != api.Accept || n != v.R[i]), v.How != api.Accept && i < v.Task && how != api.Accept, v.How != api.Accept && i == v.Task && how != v.How:
				t.Fatalf("%+v: %+v; %d: %d, %d", s, v, i, n, how)
			}
		}
	}
}

// A set of one task is accepted, whatever the task; it takes its work.
func TestP13_2One(t *testing.T) {
	r := rand.New(rand.NewSource(133))
	for range 3000 {
		x := anyTask(r, 0, pick(r, 1, 20, 300, api.MaxTime), r.Float64())
		for _, reload := range []int64{0, 1, api.MaxTime} {
			wantVerdict(t, setOf(reload, x), accept(work(x)))
		}
	}
	for _, period := range []int64{1, 2, 3, 9999, api.MaxTime} {
		for _, c := range []int64{1, 2, period - 1, period} {
			if c < 1 || c > period {
				continue
			}
			for _, d := range []int64{c, period} {
				x := touches(due(one(period, c), d), all, all)
				wantVerdict(t, setOf(api.MaxTime, x), accept(c))
				wantVerdict(t, setOf(api.MaxTime, floats(x, api.MaxTime)), accept(c))
				wantVerdict(t, setOf(api.MaxTime, threshs(x, 0)), accept(c))
			}
		}
	}
	x := one(api.MaxTime, slices.Repeat([]int64{api.MaxTime / api.MaxRegions}, api.MaxRegions)...)
	wantVerdict(t, setOf(0, x), accept(api.MaxTime))
}

// Each bound is at most the deadline, and no less than the task's work, and than the work of all that is ahead and its own.
func TestP13_2AtMostD(t *testing.T) {
	r := rand.New(rand.NewSource(134))
	met, just := 0, 0
	for range 6000 {
		s := anySet(r)
		v, _ := Judge(s)
		sum := int64(0)
		for i, n := range v.R {
			x := s.Tasks[i]
			sum += work(x)
			if n > x.D || n < work(x) || n < sum {
				t.Fatalf("%+v: bound %d of %d", s, n, i)
			}
			if n == x.D {
				just++
			}
			met++
		}
	}
	if met < 3000 || just < 100 {
		t.Errorf("only %d bounds, %d just in time", met, just)
	}
}

// With the bounds as the deadlines a set is accepted still, with the same bounds; with one of them shorter by one, it is not: that task is the first.
func TestP13_2Just(t *testing.T) {
	r := rand.New(rand.NewSource(135))
	met := 0
	for range 2000 {
		s := anySet(r)
		v, _ := Judge(s)
		if v.How != api.Accept {
			continue
		}
		for i, n := range v.R {
			s.Tasks[i].D = n
		}
		wantVerdict(t, s, v)
		for i := range s.Tasks {
			if s.Tasks[i].D == work(s.Tasks[i]) {
				continue
			}
			s.Tasks[i].D--
			wantVerdict(t, s, miss(i))
			s.Tasks[i].D++
			met++
		}
	}
	if met < 1000 {
		t.Errorf("only %d found", met)
	}
}

// shorter is a set with one region shorter by one.
func shorter(s api.Set, i, k int) api.Set {
	x := api.Set{Reload: s.Reload, Tasks: slices.Clone(s.Tasks)}
	x.Tasks[i].Regions = slices.Clone(x.Tasks[i].Regions)
	x.Tasks[i].Regions[k]--
	return x
}

// With a region shorter by one a set that is accepted is accepted still, and no bound is greater.
func TestP13_2Shorter(t *testing.T) {
	r := rand.New(rand.NewSource(136))
	met := 0
	for range 5000 {
		s := anySet(r)
		v, _ := Judge(s)
		if v.How != api.Accept {
			continue
		}
		for i, x := range s.Tasks {
			for k, n := range x.Regions {
				if n == 1 {
					continue
				}
				less, e := Judge(shorter(s, i, k))
				if e != api.OK || less.How != api.Accept || len(less.R) != len(v.R) || less.R[i] >= v.R[i] {
					t.Fatalf("%+v: %+v, with %d of %d shorter %+v", s, v, k, i, less)
				}
				for m := range v.R {
					if less.R[m] > v.R[m] {
						t.Fatalf("%+v: %+v, with %d of %d shorter %+v", s, v, k, i, less)
					}
				}
				met++
			}
		}
	}
	if met < 3000 {
		t.Errorf("only %d found", met)
	}
}

// good is a set that may be, in which each task has a bound at each block that is not too long.
func good() api.Set {
	return setOf(4, touches(one(900, 3, 9), 0b111, 0b1), touches(one(700, 7), 0b11, 0b11), touches(one(800, 2, 8), 0b1, 0b1))
}

// spoiled are sets that may not be, each by one fault, in a task of each place or in the set itself.
func spoiled() []api.Set {
	var l []api.Set
	whole := func(change func(s *api.Set)) {
		s := good()
		change(&s)
		l = append(l, s)
	}
	each := func(change func(t *api.Task)) {
		for i := range 3 {
			whole(func(s *api.Set) { change(&s.Tasks[i]) })
		}
	}
	for _, n := range []int64{-1, api.MaxTime + 1, math.MinInt64, math.MaxInt64, -1 << 32, 1 << 32} {
		whole(func(s *api.Set) { s.Reload = n })
		each(func(t *api.Task) { t.T = n })
		each(func(t *api.Task) { t.D = n })
		each(func(t *api.Task) { t.T, t.D = n, n })
		each(func(t *api.Task) { t.Mode, t.Q = api.Float, n })
		each(func(t *api.Task) { t.Mode, t.Theta = api.Thresh, int(n) })
		each(func(t *api.Task) { t.Mode = int(n) })
		each(func(t *api.Task) { t.Regions = []int64{n} })
		each(func(t *api.Task) { t.Regions = []int64{n, 1} })
	}
	for _, name := range []string{"", "A", "9", "task", " a", "a ", "a#", "é", "\xff", "abcdefghijklm", strings.Repeat("a", 1<<10)} {
		each(func(t *api.Task) { t.Name = name })
	}
	each(func(t *api.Task) { t.Regions = nil })
	each(func(t *api.Task) { t.Regions = []int64{} })
	each(func(t *api.Task) { t.Regions = []int64{0} })
	each(func(t *api.Task) { t.Regions = slices.Repeat([]int64{1}, api.MaxRegions+1) })
	each(func(t *api.Task) { t.T, t.D = 0, 0 })
	each(func(t *api.Task) { t.D = 1 })
	each(func(t *api.Task) { t.T-- })
	each(func(t *api.Task) { t.Q = 1 })
	each(func(t *api.Task) { t.Theta = 1 })
	each(func(t *api.Task) { t.Mode, t.Theta = api.Thresh, 3 })
	each(func(t *api.Task) { t.Mode = 3 })
	each(func(t *api.Task) { t.UCB = 0b1000 })
	each(func(t *api.Task) { t.UCB = all })
	whole(func(s *api.Set) { s.Tasks[2].Name = s.Tasks[0].Name })
	whole(func(s *api.Set) { s.Tasks[2].Name = s.Tasks[1].Name })
	for _, n := range []int{api.MaxTasks + 1, api.MaxTasks + 2, 64, 65} {
		l = append(l, setOf(4, slices.Repeat([]api.Task{touches(one(900, 9), all, all)}, n)...))
	}
	return append(l, api.Set{}, setOf(4), api.Set{Reload: 4, Tasks: []api.Task{}}, api.Set{Reload: 4, Tasks: good().Tasks[:0]}, api.Set{Tasks: make([]api.Task, 3)})
}

func TestP13_1SetsThatMayNotBe(t *testing.T) {
	for _, s := range spoiled() {
		if task.All(s) {
			t.Fatalf("a set that may be: %+v", s)
		}
		wantErrArg(t, s)
	}
	wantErrArg(t, api.Set{})
	wantErrArg(t, api.Set{Tasks: []api.Task{}})
	wantErrArg(t, api.Set{Reload: 4})
	wantErrArg(t, setOf(0, one(5, 6)))
	wantErrArg(t, setOf(0, due(one(5, 2), 6)))
	wantVerdict(t, good(), accept(26, 38, 41))
}

// A set that may not be is that first, though a task ahead of the fault, or behind it, is not in time.
func TestP13_1FaultsFirst(t *testing.T) {
	faults := []api.Task{one(100, 101), due(one(100, 1), 101), one(100), one(100, 0), touches(one(100, 1), 1, 2), threshs(one(100, 1), 9), {}}
	for _, s := range []api.Set{example(), later(), setOf(0, one(1, 1), one(10000, 2)), setOf(0, one(10000, 1), one(1, 1))} {
		if v := wantJudged(t, s); v.How == api.Accept {
			t.Fatalf("%+v: %+v", s, v)
		}
		for _, f := range faults {
			for at := range len(s.Tasks) + 1 {
				wantErrArg(t, setOf(0, slices.Insert(slices.Clone(s.Tasks), at, f)...))
			}
		}
		for _, n := range []int64{-1, api.MaxTime + 1} {
			wantErrArg(t, setOf(n, s.Tasks...))
		}
		for i := range s.Tasks {
			l := setOf(0, append(slices.Clone(s.Tasks), one(100, 1))...)
			l.Tasks[len(s.Tasks)].Name = l.Tasks[i].Name
			wantErrArg(t, l)
		}
		for n := api.MaxTasks; n < api.MaxTasks+3; n++ {
			wantErrArg(t, setOf(0, append(slices.Clone(s.Tasks), slices.Repeat([]api.Task{one(100, 1)}, n-1)...)...))
		}
	}
}

// verdicts are such as differ from each other, each by a little.
func verdicts() []api.Verdict {
	l := []api.Verdict{{}, {R: []int64{0}}, {R: []int64{0, 0}}, {How: -1}, {How: math.MinInt}, {How: math.MaxInt}, {Task: -1}, {Task: math.MinInt}, {Task: math.MaxInt}, {How: 7, Task: 99, R: []int64{-1}}}
	for _, how := range []int{1, 2, 3, 1 + 1<<8, 1 + 1<<16, 1 + 1<<32} {
		l = append(l, api.Verdict{How: how}, api.Verdict{How: how, R: []int64{5, 6, 7}})
	}
	for _, i := range []int{1, 2, 7, 1 << 8, 1 << 16, 1 << 32, 1 + 1<<32} {
		l = append(l, api.Verdict{How: 1, Task: i}, api.Verdict{How: 2, Task: i}, api.Verdict{How: 1, Task: i, R: []int64{5, 6, 7}})
	}
	for _, r := range [][]int64{{0}, {5}, {6}, {5, 6}, {5, 6, 0}, {5, 7, 6}, {6, 5, 7}, {7, 6, 5}, {5, 6, 8}, {5, 5, 7}, {4, 6, 7}, {5, 6, 7, 0}, {5, 6, 7, 7}, {5, 6, 7, 8}, {5, 6, 7, 5, 6, 7}, {0, 5, 6, 7}, {6, 7},
		{5 + 1<<8, 6, 7}, {5 + 1<<16, 6, 7}, {5, 6, 7 + 1<<32}, {-5, 6, 7}, {5, math.MinInt64, 7}, {5, math.MaxInt64, 7}, {5, 6, -7}, {1, 2, 3, 4, 5, 6, 7, 8}, {1, 2, 3, 4, 5, 6, 7, 9}, {8, 7, 6, 5, 4, 3, 2, 1}} {
		l = append(l, api.Verdict{How: 1, R: r})
	}
	return append(l, api.Verdict{How: 1, R: slices.Repeat([]int64{3}, 1<<16)}, api.Verdict{How: 1, R: slices.Repeat([]int64{3}, 1<<16-1)}, api.Verdict{How: 1, R: append(slices.Repeat([]int64{3}, 1<<16-1), 4)})
}

// Two verdicts are one just if each of their fields is, the list element by element.
func TestP13_1Same(t *testing.T) {
	l, other := verdicts(), verdicts()
	for i, a := range l {
		for k, b := range other {
			if Same(a, b) != (i == k) || Same(b, a) != (i == k) {
				t.Fatalf("%d, %d: not so: Task %d, %d", i, k, a.Task, b.Task)
			}
		}
		if !Same(a, a) {
			t.Fatalf("%d is not itself", i)
		}
	}
}

// A list that is nil and one that is empty are the same; what room is behind a list's end is no part of it.
func TestP13_1SameLists(t *testing.T) {
	none := [][]int64{nil, {}, make([]int64, 0, 5), []int64{5, 6}[:0], []int64{7, 8}[2:]}
	for _, a := range none {
		for _, b := range none {
			for how := range 4 {
				if !Same(api.Verdict{How: how, Task: 2, R: a}, api.Verdict{How: how, Task: 2, R: b}) {
					t.Fatalf("%v, %v are not the same", a, b)
				}
				if Same(api.Verdict{How: how, R: a}, api.Verdict{How: how + 1, R: b}) || Same(api.Verdict{How: how, Task: how, R: a}, api.Verdict{How: how, R: b}) != (how == 0) {
					t.Fatalf("%v, %v: not by the list alone", a, b)
				}
				if Same(api.Verdict{How: how, R: a}, api.Verdict{How: how, R: []int64{0}}) || Same(api.Verdict{How: how, R: []int64{5}}, api.Verdict{How: how, R: b}) {
					t.Fatalf("%v, %v: something is nothing", a, b)
				}
			}
		}
	}
	x, y := []int64{5, 6, 7, 8}, []int64{5, 6, 9}
	if !Same(accept(x[:2]...), accept(y[:2]...)) || Same(accept(x[:3]...), accept(y...)) || !Same(accept(x[:2]...), accept(x[:2:2]...)) || Same(accept(x[:2]...), accept(x...)) {
		t.Error("not by what is in the list alone")
	}
}

// What is judged twice is the same; what is judged in another way is not.
func TestP13_1SameOfJudge(t *testing.T) {
	r := rand.New(rand.NewSource(137))
	var l []api.Verdict
	for range 300 {
		s := anySet(r)
		a, _ := Judge(s)
		b, _ := Judge(s)
		if !Same(a, b) || !Same(a, judged(s)) {
			t.Fatalf("%+v: %+v, %+v", s, a, b)
		}
		l = append(l, a)
	}
	for _, a := range l {
		for _, b := range l {
			if Same(a, b) != (fmt.Sprint(a) == fmt.Sprint(b)) {
				t.Fatalf("%+v, %+v", a, b)
			}
		}
	}
}

// Of very many tasks there is nothing, and it is told soon.
func TestW1VeryMany(t *testing.T) {
	wantErrArg(t, setOf(4, slices.Repeat([]api.Task{one(900, 9)}, 1<<16)...))
	wantErrArg(t, setOf(4, one(900, slices.Repeat([]int64{1}, 1<<16)...)))
	wantErrArg(t, api.Set{Tasks: []api.Task{{Name: strings.Repeat("a", 1<<20), T: 5, D: 5, Regions: []int64{1}}}})
}

// Sets of which the processor is busy for very long: it ends, too.
func TestW1VeryLong(t *testing.T) {
	for _, s := range []api.Set{
		setOf(api.MaxTime, one(2, 1), touches(one(10000, 1), 1<<50-1, 1<<50-1)), setOf(0, one(1000, 100), one(999, 90), one(998, 90), one(2, 1), one(10000, 4900)),
		setOf(api.MaxTime, slices.Repeat([]api.Task{touches(one(10000, 1), all, all)}, api.MaxTasks)...), setOf(0, slices.Repeat([]api.Task{one(8, 1)}, api.MaxTasks)...),
		setOf(0, slices.Repeat([]api.Task{one(10000, 1250)}, api.MaxTasks)...), setOf(8000, slices.Repeat([]api.Task{touches(one(9, 1), 0, 0)}, api.MaxTasks)...),
	} {
		wantJudged(t, s)
	}
}

// spared is a set with room behind its lists' ends, and all of that room.
func spared(s api.Set) (api.Set, []api.Task, [][]int64) {
	tasks := append(slices.Clone(s.Tasks), touches(one(9000, 900), all, all), touches(one(8000, 800), all, all))
	tasks[len(s.Tasks)].Name, tasks[len(s.Tasks)+1].Name = "spare", "room"
	var rows [][]int64
	for i := range tasks {
		row := append(slices.Clone(tasks[i].Regions), 7777, 8888)
		rows = append(rows, row)
		tasks[i].Regions = row[:len(row)-2]
	}
	return api.Set{Reload: s.Reload, Tasks: tasks[:len(s.Tasks)]}, tasks, rows
}

// What is handed in is as it was, its lists' spare room too; and that room is no part of the set.
func TestW6HandedIn(t *testing.T) {
	r := rand.New(rand.NewSource(138))
	sets := append(spoiled(), example(), mixed(), good(), eight(), later())
	for range 500 {
		sets = append(sets, anySet(r))
	}
	for _, s := range sets {
		x, tasks, rows := spared(s)
		_, wantTasks, wantRows := spared(s)
		want, e := Judge(s)
		if e != api.OK {
			wantErrArg(t, x)
		} else {
			wantVerdict(t, x, want)
		}
		if !reflect.DeepEqual(tasks, wantTasks) || !reflect.DeepEqual(rows, wantRows) || x.Reload != s.Reload {
			t.Fatalf("%+v has changed: %+v, %v", s, tasks, rows)
		}
	}
}

// Same changes nothing of what it holds against each other.
func TestW6Same(t *testing.T) {
	l, want := verdicts(), verdicts()
	for i := range l {
		l[i].R, want[i].R = append(l[i].R, 77, 88), append(want[i].R, 77, 88)
		l[i].R = l[i].R[:len(l[i].R)-2]
	}
	for _, a := range l {
		for _, b := range l {
			Same(a, b)
		}
	}
	for i := range l {
		l[i].R = l[i].R[:len(l[i].R)+2]
	}
	if !reflect.DeepEqual(l, want) {
		t.Error("a verdict has changed")
	}
}

// spoil writes over a list, and over the room behind its end.
func spoil(l []int64) {
	l = l[:cap(l)]
	for i := range l {
		l[i] = -77
	}
}

// The bounds of each answer are its own: neither another answer's, nor a part of what was handed in.
func TestW6AnswersApart(t *testing.T) {
	r := rand.New(rand.NewSource(139))
	sets := []api.Set{setOf(0, one(5, 2)), mixed(), good(), eight(), setOf(0, one(4, 2), one(6, 2))}
	for range 300 {
		sets = append(sets, anySet(r))
	}
	for _, s := range sets {
		x, tasks, rows := spared(s)
		_, wantTasks, wantRows := spared(s)
		a, _ := Judge(x)
		b, _ := Judge(x)
		want := fmt.Sprint(b)
		spoil(a.R)
		if fmt.Sprint(b) != want || !reflect.DeepEqual(tasks, wantTasks) || !reflect.DeepEqual(rows, wantRows) {
			t.Fatalf("%+v: shares memory: %+v, want %s", s, b, want)
		}
		if c, _ := Judge(x); fmt.Sprint(c) != want {
			t.Fatalf("%+v: %+v behind a change, want %s", s, c, want)
		}
		for i := range tasks {
			tasks[i] = api.Task{}
			spoil(rows[i])
		}
		if fmt.Sprint(b) != want {
			t.Fatalf("%+v: keeps what was handed in: %+v, want %s", s, b, want)
		}
	}
}

// An answer hangs on nothing that was asked ahead of it, and stays what it is.
func TestW2AskedAgain(t *testing.T) {
	r := rand.New(rand.NewSource(140))
	sets := []api.Set{example(), mixed(), {}, good(), later(), eight(), setOf(-1, one(5, 1), one(9, 2))}
	for range 20 {
		sets = append(sets, anySet(r))
	}
	for _, s := range sets {
		v, e := Judge(s)
		want := fmt.Sprint(v)
		for _, other := range sets {
			Same(v, accept(1, 2))
			Judge(other)
			if again, f := Judge(s); f != e || fmt.Sprint(again) != want {
				t.Fatalf("%+v: %+v, %d, want %s, %d", s, again, f, want, e)
			}
		}
		if fmt.Sprint(v) != want {
			t.Fatalf("%+v: %+v, was %s", s, v, want)
		}
	}
}

// A verdict stays what it is, whatever is asked later.
func TestW7Stays(t *testing.T) {
	r := rand.New(rand.NewSource(141))
	var l []api.Verdict
	var want []string
	for range 300 {
		v, _ := Judge(anySet(r))
		l, want = append(l, v), append(want, fmt.Sprint(v))
	}
	for i, v := range l {
		if fmt.Sprint(v) != want[i] {
			t.Fatalf("%+v was %s", v, want[i])
		}
	}
}
