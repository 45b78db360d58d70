package block

import (
	"fmt"
	"math"
	"math/rand"
	"reflect"
	"slices"
	"strings"
	"testing"

	"taskmaster/api"
	"taskmaster/task"
)

const all = math.MaxUint64

// odd are priorities that no set has a task of.
var odd = []int{-1, -2, -8, math.MinInt, math.MinInt + 1, math.MaxInt, math.MaxInt - 1, math.MinInt32, math.MaxInt32, -1 << 32, 1 << 32, 1 << 40, api.MaxTasks, api.MaxTasks + 1, 64}

// fixed, float and thresh are tasks of a mode, without a name.
func fixed(regions ...int64) api.Task {
	return api.Task{T: api.MaxTime, D: api.MaxTime, Regions: regions}
}

func float(q int64, regions ...int64) api.Task {
	t := fixed(regions...)
	t.Mode, t.Q = api.Float, q
	return t
}

func thresh(theta int, regions ...int64) api.Task {
	t := fixed(regions...)
	t.Mode, t.Theta = api.Thresh, theta
	return t
}

// needs is a task that needs cache sets again.
func needs(t api.Task, ucb uint64) api.Task {
	t.ECB, t.UCB = ucb, ucb
	return t
}

// setOf is a set of tasks, which have names by their places.
func setOf(reload int64, l ...api.Task) api.Set {
	s := api.Set{Reload: reload, Tasks: slices.Clone(l)}
	for i := range s.Tasks {
		s.Tasks[i].Name = fmt.Sprint("t", i)
	}
	return s
}

// pair is a set of a short task, and one below it.
func pair(reload int64, low api.Task) api.Set { return setOf(reload, fixed(1), low) }

// filled is a set of n tasks: short ones, and one of them at its place.
func filled(n, at int, x api.Task) api.Set {
	l := slices.Repeat([]api.Task{fixed(1)}, n)
	l[at] = x
	return setOf(5, l...)
}

// example is the chapter's: regions 2 5 1, Fixed, no UCB, below another one.
func example() api.Set { return pair(2, fixed(2, 5, 1)) }

// mixed is a set with all modes, in which the longest is in the middle for some.
func mixed() api.Set {
	return setOf(3, fixed(9), thresh(0, 4), float(7, 30), fixed(2, 6), needs(thresh(2, 3, 3), 0b11), needs(fixed(1, 2), 0b1))
}

// want asks for one answer of Of.
func want(t *testing.T, s api.Set, low, high int, n int64) {
	t.Helper()
	if got := Of(s, low, high); got != n {
		t.Errorf("Of %d, %d in %+v: %d, want %d", low, high, s, got, n)
	}
}

// wantMost asks for one answer of Most.
func wantMost(t *testing.T, s api.Set, i int, n int64) {
	t.Helper()
	if got := Most(s, i); got != n {
		t.Errorf("Most %d in %+v: %d, want %d", i, s, got, n)
	}
}

// wantPair asks for how long a task stands in the way of the one ahead of it.
func wantPair(t *testing.T, s api.Set, n int64) {
	t.Helper()
	if !task.All(s) || len(s.Tasks) != 2 {
		t.Fatalf("no question: %+v", s)
	}
	want(t, s, 1, 0, n)
	want(t, s, 0, 1, 0)
	wantMost(t, s, 0, n)
	wantMost(t, s, 1, 0)
}

// wantNone asks for nothing of the pairs of some priorities.
func wantNone(t *testing.T, s api.Set, l []int) {
	t.Helper()
	for _, low := range l {
		for _, high := range l {
			want(t, s, low, high, 0)
		}
		wantMost(t, s, low, 0)
	}
}

// digits is the cache sets, as they are written.
func digits(x uint64) string { return fmt.Sprintf("%064b", x) }

// told is what the chapter asks of a set that may be: for each way to stand in the way a row of ticks, of which one is done.
func told(s api.Set, low, high int) int64 {
	if low < 0 || high < 0 || low >= len(s.Tasks) || high >= low {
		return 0
	}
	x := s.Tasks[low]
	rows := []int64{0}
	for _, r := range x.Regions {
		rows[0] += r
	}
	if x.Mode == api.Fixed {
		rows = slices.Sorted(slices.Values(x.Regions))
	}
	ticks := rows[len(rows)-1] - 1
	for _, c := range digits(x.UCB) {
		if c == '1' {
			ticks += s.Reload
		}
	}
	if x.Mode == api.Float && x.Q < ticks {
		return x.Q
	}
	if x.Mode == api.Thresh && high < x.Theta {
		return 0
	}
	return ticks
}

// toldMost is the last of what is told of all pairs of i and another one, if they are sorted.
func toldMost(s api.Set, i int) int64 {
	l := []int64{0}
	for low := range s.Tasks {
		l = append(l, told(s, low, i))
	}
	slices.Sort(l)
	return l[len(l)-1]
}

// byTicks is how many ticks a lower task runs, tick by tick, from when a higher one comes until it is interrupted, at most:
// it loads all that it may have to, ahead of each of its places, and what is higher comes at each tick behind the first.
func byTicks(s api.Set, low, high int) int64 {
	x, most := s.Tasks[low], int64(0)
	load := s.Reload * int64(strings.Count(digits(x.UCB), "1"))
	for first := range x.Regions {
		ends := []int64{load}
		for _, r := range x.Regions[first:] {
			ends = append(ends, ends[len(ends)-1]+r)
		}
		for comes := int64(1); comes < ends[len(ends)-1]; comes++ {
			ran := int64(0)
			for now := comes; now < ends[len(ends)-1] && !isOut(x, now, comes, high, ends[1:]); now++ {
				ran++
			}
			most = max(most, ran)
		}
	}
	return most
}

// isOut tells whether a task is interrupted by a higher one.
func isOut(x api.Task, now, comes int64, high int, ends []int64) bool {
	switch x.Mode {
	case api.Fixed:
		return slices.Contains(ends, now)
	case api.Float:
		return now == comes+x.Q
	}
	return high < x.Theta
}

// wantTold asks for what the chapter asks, of each pair and beyond them.
func wantTold(t *testing.T, s api.Set) {
	t.Helper()
	if !task.All(s) {
		t.Fatalf("a set that may not be: %+v", s)
	}
	for low := -2; low < len(s.Tasks)+2; low++ {
		for high := -2; high < len(s.Tasks)+2; high++ {
			want(t, s, low, high, told(s, low, high))
		}
		wantMost(t, s, low, toldMost(s, low))
	}
}

func TestP9_1Example(t *testing.T) {
	wantPair(t, example(), 4)
	s := mixed()
	for low, row := range [][]int64{{}, {3}, {7, 7}, {5, 5, 5}, {0, 0, 11, 11}, {4, 4, 4, 4, 4}} {
		for high, n := range row {
			want(t, s, low, high, n)
		}
	}
	for i, n := range []int64{7, 7, 11, 11, 4, 0} {
		wantMost(t, s, i, n)
	}
	wantTold(t, s)
}

// A pair of priorities that are not those of a lower task and of a higher one has nothing, in sets of any size.
func TestP9_1Priorities(t *testing.T) {
	for n := 1; n <= api.MaxTasks; n++ {
		s := setOf(5, slices.Repeat([]api.Task{needs(fixed(3, 4), 0b11)}, n)...)
		for low := range n {
			for high := range n {
				want(t, s, low, high, map[bool]int64{true: 13}[high < low])
			}
			for _, other := range append([]int{n, n + 1, 2 * n, -n, -n - 1}, odd...) {
				want(t, s, low, other, 0)
				want(t, s, other, low, 0)
			}
			wantMost(t, s, low, map[bool]int64{true: 13}[low < n-1])
		}
		wantNone(t, s, append([]int{n, n + 1, 2 * n, -n, -n - 1}, odd...))
	}
}

// A number that comes back among the priorities, if it is cut to fewer digits, is none of them.
func TestP9_1PrioritiesCut(t *testing.T) {
	for n := 1; n <= api.MaxTasks; n++ {
		s := setOf(5, slices.Repeat([]api.Task{fixed(9)}, n)...)
		for i := range n {
			l := []int{i + math.MinInt, -i - 1}
			for shift := 8; shift < 63; shift++ {
				l = append(l, i+1<<shift, i-1<<shift)
			}
			for _, other := range l {
				want(t, s, n-1, other, 0)
				want(t, s, other, 0, 0)
				want(t, s, other, i, 0)
				want(t, s, i, other, 0)
				wantMost(t, s, other, 0)
			}
		}
	}
}

// Most of no such task, of the first, of those between, of the last.
func TestP9_1Most(t *testing.T) {
	for n := 1; n <= api.MaxTasks; n++ {
		for at := range n {
			s := filled(n, at, fixed(9))
			for i := -2; i < n+3; i++ {
				wantMost(t, s, i, map[bool]int64{true: 8}[0 <= i && i < at])
			}
			for _, i := range odd {
				wantMost(t, s, i, 0)
			}
		}
	}
	rising := setOf(0, fixed(10), fixed(11), fixed(12), fixed(13))
	falling := setOf(0, fixed(13), fixed(12), fixed(11), fixed(10))
	for i := range 3 {
		wantMost(t, rising, i, 12)
		wantMost(t, falling, i, 11-int64(i))
	}
	wantMost(t, rising, 3, 0)
	wantMost(t, falling, 3, 0)
}

// A threshold hangs on whose way it is: Most is not that of the one ahead.
func TestP9_1MostByThreshold(t *testing.T) {
	for theta := range api.MaxTasks {
		s := filled(api.MaxTasks, api.MaxTasks-1, thresh(theta, 9))
		for i := range api.MaxTasks {
			wantMost(t, s, i, map[bool]int64{true: 8}[theta <= i && i < api.MaxTasks-1])
		}
	}
}

// One region up to MaxRegions of them, the longest at each place.
func TestP9_1Fixed(t *testing.T) {
	for n := 1; n <= api.MaxRegions; n++ {
		for at := range n {
			regions := slices.Repeat([]int64{3}, n)
			for _, long := range []int64{1, 2, 3, 4, 90, 900} {
				regions[at] = long
				longest := max(long, map[bool]int64{true: 3}[n > 1])
				wantPair(t, pair(2, fixed(regions...)), longest-1)
				wantPair(t, pair(2, needs(fixed(regions...), 0b101)), longest+3)
			}
		}
	}
	wantPair(t, pair(2, fixed(api.MaxTime)), 9999)
	wantPair(t, pair(2, fixed(api.MaxTime-1, 1)), 9998)
	wantPair(t, pair(2, fixed(1250, 1250, 1250, 1250, 1250, 1250, 1250, 1250)), 1249)
	wantPair(t, pair(2, fixed(1, 2, 3, 4, 5, 6, 7, 8)), 7)
	wantPair(t, pair(2, fixed(8, 7, 6, 5, 4, 3, 2, 1)), 7)
	wantPair(t, pair(2, fixed(5, 6, 7, 8, 4, 3, 2, 1)), 7)
}

// Q less than the work and the loading, as long, longer.
func TestP9_1Float(t *testing.T) {
	for q := range int64(30) {
		wantPair(t, pair(2, float(q, 4)), min(q, 3))
		wantPair(t, pair(2, float(q, 4, 5, 6)), min(q, 14))
		wantPair(t, pair(2, needs(float(q, 4), 0b11)), min(q, 7))
		wantPair(t, pair(2, needs(float(q, 4, 5), 0b111)), min(q, 14))
		wantPair(t, pair(2, float(q, 1)), 0)
	}
	wantPair(t, pair(0, float(api.MaxTime, api.MaxTime)), 9999)
	wantPair(t, pair(0, float(9999, api.MaxTime)), 9999)
	wantPair(t, pair(0, float(9998, api.MaxTime)), 9998)
	wantPair(t, pair(1, needs(float(api.MaxTime, api.MaxTime), 1)), 10000)
	wantPair(t, pair(api.MaxTime, needs(float(api.MaxTime, 1), 1)), 10000)
	wantPair(t, pair(api.MaxTime, needs(float(api.MaxTime, api.MaxTime), all)), 10000)
	wantPair(t, pair(api.MaxTime-1, needs(float(api.MaxTime, 1), 1)), 9999)
}

// Theta less than the higher one's priority, that one, greater; its own priority among them.
func TestP9_1Thresh(t *testing.T) {
	for low := range api.MaxTasks {
		for theta := range low + 1 {
			s := filled(api.MaxTasks, low, needs(thresh(theta, 4, 6, 5), 0b11))
			for high := range api.MaxTasks {
				want(t, s, low, high, map[bool]int64{true: 24}[theta <= high && high < low])
			}
		}
	}
	wantPair(t, pair(2, thresh(0, 3)), 2)
	wantPair(t, pair(2, thresh(1, 3)), 0)
	wantPair(t, pair(2, thresh(0, 1)), 0)
	wantPair(t, pair(2, thresh(0, api.MaxTime)), 9999)
	wantPair(t, pair(2, thresh(0, 1250, 1250, 1250, 1250, 1250, 1250, 1250, 1250)), 9999)
}

// No cache set that is needed again up to all of them, with each Reload at an edge.
func TestP9_1Loading(t *testing.T) {
	for n := range int64(api.Sets + 1) {
		for _, ucb := range []uint64{uint64(1)<<n - 1, ^(uint64(all) >> n)} { // a shift by 64 leaves nothing
			for _, reload := range []int64{0, 1, 2, 9999, api.MaxTime} {
				wantPair(t, pair(reload, needs(fixed(2, 5, 1), ucb)), 4+reload*n)
				wantPair(t, pair(reload, needs(thresh(0, 2, 5, 1), ucb)), 7+reload*n)
				wantPair(t, pair(reload, needs(thresh(1, 2, 5, 1), ucb)), 0)
				wantPair(t, pair(reload, needs(float(11, 2, 5, 1), ucb)), min(11, 7+reload*n))
			}
		}
	}
	wantPair(t, pair(api.MaxTime, needs(fixed(api.MaxTime), all)), 649999)
	wantPair(t, pair(api.MaxTime, needs(thresh(0, api.MaxTime), all)), 649999)
	for k := range api.Sets {
		wantPair(t, pair(6, needs(fixed(3), 1<<k)), 8)
	}
	for reload := range int64(api.MaxTime + 1) {
		wantPair(t, pair(reload, needs(fixed(3), 0b11)), 2+2*reload)
	}
}

// A work of 1 with nothing to load does not stand in the way.
func TestP9_1NoTickLeft(t *testing.T) {
	for _, x := range []api.Task{fixed(1), float(0, 1), float(1, 1), float(api.MaxTime, 1), thresh(0, 1), fixed(1, 1, 1)} {
		wantPair(t, pair(0, x), 0)
		wantPair(t, pair(0, needs(x, all)), 0)
		wantPair(t, pair(api.MaxTime, x), 0)
		x.ECB = all
		wantPair(t, pair(api.MaxTime, x), 0)
	}
	wantPair(t, pair(1, needs(fixed(1), 1)), 1)
	wantPair(t, pair(1, needs(float(1, 1), 1)), 1)
	wantPair(t, pair(1, needs(thresh(0, 1), 1)), 1)
	wantPair(t, pair(0, fixed(2)), 1)
}

// Of the lower one alone it hangs what Of answers; of it neither name, period, deadline nor what it touches count.
func TestP9_1NothingElse(t *testing.T) {
	for _, x := range []api.Task{fixed(2, 5), float(3, 2, 5), thresh(1, 2, 5)} {
		for _, y := range []api.Task{fixed(9, 9), float(1, 9, 9), needs(float(50, 60), all), thresh(0, 70), fixed(1)} {
			s := setOf(4, y, y, needs(x, 0b11), y)
			plain := setOf(4, fixed(1), fixed(1), needs(x, 0b11), fixed(1))
			for i := range s.Tasks {
				s.Tasks[i].T, s.Tasks[i].D = 9000+int64(i), 8000-int64(i)
				s.Tasks[i].Name = string("zmac"[i])
				s.Tasks[i].ECB |= 0b1011
			}
			for high := range 2 {
				want(t, s, 2, high, Of(plain, 2, high))
			}
			wantTold(t, s)
		}
	}
}

// All tasks of up to three short regions, at two places, tick by tick.
func TestP9_1AllSmall(t *testing.T) {
	var rows [][]int64
	for a := int64(1); a < 5; a++ {
		rows = append(rows, []int64{a})
		for b := int64(1); b < 5; b++ {
			rows = append(rows, []int64{a, b})
			for c := int64(1); c < 5; c++ {
				rows = append(rows, []int64{a, b, c})
			}
		}
	}
	for _, row := range rows {
		l := []api.Task{fixed(row...), thresh(0, row...), thresh(1, row...), thresh(2, row...)}
		for q := range int64(17) {
			l = append(l, float(q, row...))
		}
		for _, x := range l {
			for ucb := range uint64(4) {
				s := setOf(2, fixed(1), fixed(1), needs(x, ucb<<31))
				for high := range 2 {
					want(t, s, 2, high, byTicks(s, 2, high))
				}
				wantTold(t, s)
			}
		}
	}
}

// pick is one of several numbers, by chance.
func pick(r *rand.Rand, l ...int64) int64 { return l[r.Intn(len(l))] }

// anyTask is a task that may be at a place.
func anyTask(r *rand.Rand, at int) api.Task {
	x := fixed()
	most := pick(r, 1, 9, 1000, 1250)
	for range 1 + r.Intn(api.MaxRegions) {
		x.Regions = append(x.Regions, 1+r.Int63n(most))
	}
	if len(x.Regions) == 1 {
		x.Regions[0] = pick(r, 1, 5, 9999, api.MaxTime)
	}
	work := task.Work(x)
	x.D = pick(r, work, api.MaxTime, work+r.Int63n(api.MaxTime+1-work))
	x.T = pick(r, x.D, api.MaxTime)
	switch x.Mode = r.Intn(3); x.Mode {
	case api.Float:
		x.Q = pick(r, 0, 1, work-1, work, min(work+1, api.MaxTime), r.Int63n(work+1), api.MaxTime)
	case api.Thresh:
		x.Theta = r.Intn(at + 1)
	}
	x.ECB = []uint64{0, 1, 1 << 63, all, r.Uint64(), r.Uint64() & r.Uint64() & r.Uint64(), r.Uint64() | r.Uint64()}[r.Intn(7)]
	x.UCB = x.ECB & []uint64{0, all, r.Uint64(), r.Uint64() & r.Uint64() & r.Uint64()}[r.Intn(4)]
	return x
}

// anySet is a set that may be.
func anySet(r *rand.Rand) api.Set {
	var l []api.Task
	for at := range 1 + r.Intn(api.MaxTasks) {
		l = append(l, anyTask(r, at))
	}
	return setOf(pick(r, 0, 1, 10, api.MaxTime, r.Int63n(api.MaxTime+1)), l...)
}

func TestP9_1ByChance(t *testing.T) {
	r := rand.New(rand.NewSource(91))
	for range 3000 {
		wantTold(t, anySet(r))
	}
}

// Most is the Of of one of the lower ones, and no less than any other's.
func TestP9_1MostIsOneOfThem(t *testing.T) {
	r := rand.New(rand.NewSource(92))
	for range 2000 {
		s := anySet(r)
		for i := range s.Tasks[1:] {
			most, found := Most(s, i), false
			for low := i + 1; low < len(s.Tasks); low++ {
				n := Of(s, low, i)
				found = found || n == most
				if n > most || n < 0 {
					t.Errorf("Of %d, %d in %+v: %d, Most %d", low, i, s, n, most)
				}
			}
			if !found {
				t.Errorf("Most %d in %+v: %d is nobody's", i, s, most)
			}
		}
		wantMost(t, s, len(s.Tasks)-1, 0)
		wantMost(t, s, len(s.Tasks), 0)
		wantMost(t, s, -1, 0)
	}
}

// good is a set that may be, in which each pair has something.
func good() api.Set {
	return setOf(4, needs(fixed(3, 9), 0b1), needs(fixed(7), 0b11), needs(fixed(2, 8), 0b1))
}

// spoiled are sets that may not be, each by one fault, in a task of each place or in the set itself.
func spoiled() []api.Set {
	var l []api.Set
	whole := func(change func(s *api.Set)) {
		s := good()
		change(&s)
		l = append(l, s)
	}
	each := func(change func(t *api.Task)) {
		for i := range 3 {
			whole(func(s *api.Set) { change(&s.Tasks[i]) })
		}
	}
	for _, n := range []int64{-1, api.MaxTime + 1, math.MinInt64, math.MaxInt64, -1 << 32, 1 << 32} {
		whole(func(s *api.Set) { s.Reload = n })
		each(func(t *api.Task) { t.T = n })
		each(func(t *api.Task) { t.D = n })
		each(func(t *api.Task) { t.Mode, t.Q = api.Float, n })
		each(func(t *api.Task) { t.Mode, t.Theta = api.Thresh, int(n) })
		each(func(t *api.Task) { t.Mode = int(n) })
		each(func(t *api.Task) { t.Regions = []int64{n} })
		each(func(t *api.Task) { t.Regions = []int64{n, 1} })
	}
	for _, name := range []string{"", "A", "9", "task", " a", "a ", "a#", "é", "\xff", "abcdefghijklm", strings.Repeat("a", 1<<10)} {
		each(func(t *api.Task) { t.Name = name })
	}
	each(func(t *api.Task) { t.Regions = nil })
	each(func(t *api.Task) { t.Regions = []int64{} })
	each(func(t *api.Task) { t.Regions = []int64{0} })
	each(func(t *api.Task) { t.Regions = []int64{5000, 5000, 1} })
	each(func(t *api.Task) { t.Regions = slices.Repeat([]int64{1}, api.MaxRegions+1) })
	each(func(t *api.Task) { t.D = 1 })
	each(func(t *api.Task) { t.T-- })
	each(func(t *api.Task) { t.Q = 1 })
	each(func(t *api.Task) { t.Theta = 1 })
	each(func(t *api.Task) { t.Mode, t.Theta = api.Thresh, 3 })
	each(func(t *api.Task) { t.Mode = 3 })
	each(func(t *api.Task) { t.UCB = 0b1000 })
	each(func(t *api.Task) { t.UCB = all })
	whole(func(s *api.Set) { s.Tasks[2].Name = s.Tasks[0].Name })
	whole(func(s *api.Set) { s.Tasks[2].Name = s.Tasks[1].Name })
	for _, n := range []int{api.MaxTasks + 1, api.MaxTasks + 2, 64} {
		l = append(l, setOf(4, slices.Repeat([]api.Task{needs(fixed(9), all)}, n)...))
	}
	return append(l, api.Set{}, setOf(4), api.Set{Reload: 4, Tasks: []api.Task{}}, api.Set{Tasks: make([]api.Task, 3)})
}

// Of a set that may not be there is nothing, whatever the priorities, whichever task is at fault.
func TestP9_1SetsThatMayNotBe(t *testing.T) {
	for _, s := range spoiled() {
		if task.All(s) {
			t.Fatalf("a set that may be: %+v", s)
		}
		l := slices.Clone(odd)
		for i := range len(s.Tasks) + 2 {
			l = append(l, i)
		}
		wantNone(t, s, l)
	}
	s := good()
	want(t, s, 1, 0, 14)
	want(t, s, 2, 0, 11)
	want(t, s, 2, 1, 11)
	for i, n := range []int64{14, 11, 0} {
		wantMost(t, s, i, n)
	}
}

// Of very many tasks there is nothing, and it is told soon.
func TestW1VeryMany(t *testing.T) {
	s := setOf(4, slices.Repeat([]api.Task{fixed(9)}, 1<<16)...)
	for _, i := range append([]int{0, 1, 1<<16 - 2, 1<<16 - 1, 1 << 16}, odd...) {
		wantMost(t, s, i, 0)
		want(t, s, 1<<16-1, i, 0)
	}
}

// One lower job that runs, tick by tick, until it may be interrupted, runs just so long, at most (all jobs together are package kernel's).
func TestP9_2OneJob(t *testing.T) {
	r := rand.New(rand.NewSource(93))
	for range 300 {
		s := anySet(r)
		s.Reload = r.Int63n(3)
		for i := range s.Tasks {
			x := fixed()
			for range 1 + r.Intn(3) {
				x.Regions = append(x.Regions, 1+r.Int63n(9))
			}
			x.Mode, x.Q, x.Theta = s.Tasks[i].Mode, min(s.Tasks[i].Q, r.Int63n(40)), s.Tasks[i].Theta
			s.Tasks[i] = needs(x, s.Tasks[i].UCB&0b10111)
		}
		s = setOf(s.Reload, s.Tasks...)
		for i := range s.Tasks {
			most := int64(0)
			for low := i + 1; low < len(s.Tasks); low++ {
				n := byTicks(s, low, i)
				want(t, s, low, i, n)
				most = max(most, n)
			}
			wantMost(t, s, i, most)
		}
	}
}

// spared is a set with room behind its lists' ends, and all of that room.
func spared(s api.Set) (api.Set, []api.Task, [][]int64) {
	tasks := append(slices.Clone(s.Tasks), needs(fixed(9000), all), needs(thresh(0, 9000), all))
	tasks[len(s.Tasks)].Name, tasks[len(s.Tasks)+1].Name = "spare", "room"
	var rows [][]int64
	for i := range tasks {
		row := append(slices.Clone(tasks[i].Regions), 7777, 8888)
		rows = append(rows, row)
		tasks[i].Regions = row[:len(row)-2]
	}
	return api.Set{Reload: s.Reload, Tasks: tasks[:len(s.Tasks)]}, tasks, rows
}

// What is handed in is as it was, its lists' spare room too; and that room is no part of the set.
func TestW6HandedIn(t *testing.T) {
	r := rand.New(rand.NewSource(96))
	sets := spoiled()
	for range 500 {
		sets = append(sets, anySet(r))
	}
	for _, s := range sets {
		x, tasks, rows := spared(s)
		_, wantTasks, wantRows := spared(s)
		for i := -1; i < min(len(s.Tasks), api.MaxTasks)+3; i++ {
			for low := -1; low < min(len(s.Tasks), api.MaxTasks)+3; low++ {
				want(t, x, low, i, Of(s, low, i))
			}
			wantMost(t, x, i, Most(s, i))
		}
		if !reflect.DeepEqual(tasks, wantTasks) || !reflect.DeepEqual(rows, wantRows) || x.Reload != s.Reload {
			t.Fatalf("%+v has changed: %+v, %v", s, tasks, rows)
		}
	}
}

// An answer hangs on nothing that was asked ahead of it.
func TestW2AskedAgain(t *testing.T) {
	r := rand.New(rand.NewSource(90))
	sets := []api.Set{example(), mixed(), {}, good(), setOf(-1, fixed(1), fixed(9))}
	for range 5 {
		sets = append(sets, anySet(r))
	}
	for _, s := range sets {
		for i := -1; i < api.MaxTasks+1; i++ {
			first, most := Of(s, i+1, i), Most(s, i)
			for _, other := range sets {
				for k := -1; k < len(other.Tasks)+1; k++ {
					Of(other, k+1, k)
					Most(other, k)
				}
				want(t, s, i+1, i, first)
				wantMost(t, s, i, most)
			}
		}
	}
}
