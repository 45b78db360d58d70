package task

import (
	"math"
	"math/big"
	"math/rand"
	"reflect"
	"regexp"
	"slices"
	"strings"
	"testing"

	"taskmaster/api"
)

const language = "reload task period deadline fixed float thresh regions ecb ucb"

// plain is a task that may be at every place.
func plain() api.Task {
	return api.Task{Name: "a", T: 20, D: 15, Regions: []int64{3, 4, 5}, ECB: 0b1110, UCB: 0b0110}
}

// with is the plain task, changed.
func with(change func(t *api.Task)) api.Task {
	t := plain()
	change(&t)
	return t
}

func named(name string) api.Task { return with(func(t *api.Task) { t.Name = name }) }

func timed(period, deadline int64, regions ...int64) api.Task {
	return with(func(t *api.Task) { t.T, t.D, t.Regions = period, deadline, regions })
}

func moded(mode int, q int64, theta int) api.Task {
	return with(func(t *api.Task) { t.Mode, t.Q, t.Theta = mode, q, theta })
}

func touching(ecb, ucb uint64) api.Task {
	return with(func(t *api.Task) { t.ECB, t.UCB = ecb, ucb })
}

// wantIs asks whether a task may be at a place.
func wantIs(t *testing.T, x api.Task, priority int, want bool) {
	t.Helper()
	if got := Is(x, priority); got != want {
		t.Errorf("Is(%+v, %d) = %v", x, priority, got)
	}
}

// wantAll asks whether a set may be.
func wantAll(t *testing.T, s api.Set, want bool) {
	t.Helper()
	if got := All(s); got != want {
		t.Errorf("All(%+v) = %v", s, got)
	}
}

// wantSame asks whether two sets are one, either way round.
func wantSame(t *testing.T, a, b api.Set, want bool) {
	t.Helper()
	if Same(a, b) != want || Same(b, a) != want {
		t.Errorf("Same(%+v, %+v) = %v, and %v the other way round", a, b, Same(a, b), Same(b, a))
	}
}

// rowOf is n regions of one length.
func rowOf(n int, length int64) []int64 { return slices.Repeat([]int64{length}, n) }

// tasksOf is n tasks with names of their own.
func tasksOf(n int) []api.Task {
	var l []api.Task
	for i := range n {
		l = append(l, named(string(rune('a'+i))))
	}
	return l
}

func setOf(reload int64, l ...api.Task) api.Set { return api.Set{Reload: reload, Tasks: l} }

var pattern = regexp.MustCompile(`\A[a-z][a-z0-9_]*\z`)

// told is what the chapter asks of a task, with sums of any size.
func told(t api.Task, priority int) bool {
	if !pattern.MatchString(t.Name) || len(t.Name) > 12 || slices.Contains(strings.Fields(language), t.Name) {
		return false
	}
	sum := new(big.Int)
	for _, r := range t.Regions {
		if r < 1 || r > 10000 {
			return false
		}
		sum.Add(sum, big.NewInt(r))
	}
	if n := len(t.Regions); n == 0 || n > 8 {
		return false
	}
	if sum.Cmp(big.NewInt(t.D)) > 0 || t.D > t.T || t.T > 10000 {
		return false
	}
	if t.Mode < api.Fixed || t.Mode > api.Thresh {
		return false
	}
	if t.Q != 0 && (t.Mode != api.Float || t.Q < 0 || t.Q > 10000) {
		return false
	}
	if t.Theta < 0 || t.Theta != 0 && t.Mode != api.Thresh || t.Mode == api.Thresh && t.Theta > priority {
		return false
	}
	return t.ECB|t.UCB == t.ECB
}

// toldAll is what the chapter asks of a set.
func toldAll(s api.Set) bool {
	names := map[string]bool{}
	for i, t := range s.Tasks {
		if !told(t, i) {
			return false
		}
		names[t.Name] = true
	}
	n := len(s.Tasks)
	return 0 <= s.Reload && s.Reload <= 10000 && 1 <= n && n <= 8 && len(names) == n
}

func TestP5_1Plain(t *testing.T) {
	for priority := range api.MaxTasks {
		wantIs(t, plain(), priority, true)
	}
	for _, priority := range []int{-1, math.MinInt, api.MaxTasks, math.MaxInt} {
		wantIs(t, plain(), priority, told(plain(), priority))
	}
	wantIs(t, api.Task{}, 0, false)
	wantIs(t, timed(9, 2, 3), 0, false) // the chapter's example
	wantIs(t, timed(9, 3, 3), 0, true)
}

func TestP5_1Name(t *testing.T) {
	for _, name := range []string{"a", "z", "a0", "a9", "z_", "a_b_1", "taskx", "tas", "ecb_", "abcdefghijkl", "a__________9"} {
		wantIs(t, named(name), 0, true)
	}
	for _, name := range []string{
		"", "1", "12", "_", "_a", "A", "aB", "0a", ";", "a;", ";a", "a b", "a task", "a 1", "a a",
		" a", "a ", "\na", "a\n", "a\n\n", " ", "\n", "a#", "a#b", "#a", "#\na", "a #", "#", "a-b", "a\x00", "\x00a",
		"\ta", "a\t", "a\r", "é", "aé", "a\xff", "\xff", "abcdefghijklm", "a__________99", "abcdefghijkl ",
		strings.Repeat("a", api.MaxText), strings.Repeat("a", api.MaxText+1), "a" + strings.Repeat(" ", api.MaxText),
		"a" + strings.Repeat(" ", api.MaxText-1), "task task",
	} {
		wantIs(t, named(name), 0, false)
	}
	for _, name := range strings.Fields(language) {
		wantIs(t, named(name), 0, false)
		wantIs(t, named(name+"s"), 0, len(name) < api.MaxName)
	}
}

func TestP5_1NamesOfTwoBytes(t *testing.T) {
	for a := range 256 {
		wantIs(t, named(string([]byte{byte(a)})), 0, 'a' <= a && a <= 'z')
		for b := range 256 {
			x := named(string([]byte{byte(a), byte(b)}))
			wantIs(t, x, 0, told(x, 0))
		}
	}
}

func TestP5_1HowManyRegions(t *testing.T) {
	wantIs(t, timed(100, 100), 0, false)
	wantIs(t, timed(100, 100, []int64{}...), 0, false)
	for n := range api.MaxRegions + 3 {
		wantIs(t, timed(100, 100, rowOf(n, 2)...), 0, 1 <= n && n <= api.MaxRegions)
	}
	wantIs(t, timed(10000, 10000, rowOf(9, 1)...), 0, false)
	wantIs(t, timed(10000, 10000, rowOf(10000, 1)...), 0, false)
	wantIs(t, timed(math.MaxInt64, math.MaxInt64, rowOf(1<<20, 1)...), 0, false)
}

func TestP5_1HowLongRegions(t *testing.T) {
	for _, r := range []int64{1, 2, api.MaxTime - 1, api.MaxTime} {
		wantIs(t, timed(api.MaxTime, api.MaxTime, r), 0, true)
	}
	for _, r := range []int64{0, -1, math.MinInt64, api.MaxTime + 1, math.MaxInt64, 1 << 32, 1<<32 + 1} {
		wantIs(t, timed(api.MaxTime, api.MaxTime, r), 0, false)
	}
	for at := range 3 {
		for _, r := range []int64{0, -1} {
			row := rowOf(3, 5)
			row[at] = r
			wantIs(t, timed(100, 100, row...), 0, false)
		}
	}
	// These sums would be small ones, and fit, if they went round or if what is below 0 were taken in.
	for _, row := range [][]int64{
		rowOf(4, 1<<62), rowOf(8, 1<<61), {1 << 62, 1 << 62, 1 << 62, 1 << 62, 5}, {math.MaxInt64, math.MaxInt64, 3},
		{math.MaxInt64, 1}, {math.MinInt64, math.MinInt64}, {math.MinInt64, math.MinInt64, 5}, {10001, -1}, {-5, 10}, {20000, -19990},
	} {
		wantIs(t, timed(api.MaxTime, api.MaxTime, row...), 0, false)
	}
}

func TestP5_1Times(t *testing.T) {
	for _, x := range []struct {
		period, deadline int64
		row              []int64
		want             bool
	}{
		{12, 12, []int64{3, 4, 5}, true},
		{12, 11, []int64{3, 4, 5}, false},
		{13, 12, []int64{3, 4, 5}, true},
		{12, 13, []int64{3, 4, 5}, false},
		{11, 12, []int64{3, 4, 5}, false},
		{11, 11, []int64{3, 4, 5}, false},
		{1, 1, []int64{1}, true},
		{0, 0, []int64{1}, false},
		{1, 0, []int64{1}, false},
		{0, 1, []int64{1}, false},
		{-1, -1, []int64{1}, false},
		{10000, 10000, []int64{10000}, true},
		{10000, 1, []int64{1}, true},
		{10000, 10000, []int64{5000, 5000}, true},
		{10000, 10000, []int64{5000, 5001}, false},
		{10000, 10000, rowOf(8, 1250), true},
		{10000, 10000, rowOf(8, 1251), false},
		{10000, 10000, rowOf(8, 10000), false},
		{10001, 10000, []int64{1}, false},
		{10001, 10001, []int64{1}, false},
		{10000, 10001, []int64{1}, false},
		{80000, 80000, rowOf(8, 10000), false},
		{math.MaxInt64, 1, []int64{1}, false},
		{math.MaxInt64, math.MaxInt64, []int64{1}, false},
		{10, math.MaxInt64, []int64{1}, false},
		{10, math.MinInt64, []int64{1}, false},
		{math.MinInt64, 10, []int64{1}, false},
		{math.MinInt64, math.MinInt64, []int64{1}, false},
		{1<<32 + 10, 10, []int64{1}, false},
	} {
		wantIs(t, timed(x.period, x.deadline, x.row...), 0, x.want)
	}
}

func TestP5_1Mode(t *testing.T) {
	for _, mode := range []int{api.Fixed, api.Float, api.Thresh} {
		wantIs(t, moded(mode, 0, 0), 0, true)
	}
	for _, mode := range []int{-1, 3, 4, math.MinInt, math.MaxInt, 1 << 32, 1<<32 + 1, 256} {
		wantIs(t, moded(mode, 0, 0), 7, false)
		wantIs(t, moded(mode, 1, 0), 7, false)
		wantIs(t, moded(mode, 0, 1), 7, false)
	}
}

func TestP5_1Q(t *testing.T) {
	for _, q := range []int64{0, 1, 15, 16, 20, 21, api.MaxTime - 1, api.MaxTime} {
		for priority := range api.MaxTasks {
			wantIs(t, moded(api.Float, q, 0), priority, true)
			wantIs(t, moded(api.Fixed, q, 0), priority, q == 0)
			wantIs(t, moded(api.Thresh, q, 0), priority, q == 0)
			wantIs(t, moded(api.Float, q, 1), priority, false)
		}
	}
	for _, q := range []int64{-1, api.MaxTime + 1, math.MinInt64, math.MaxInt64, 1 << 32, -1 << 32} {
		for mode := range 3 {
			wantIs(t, moded(mode, q, 0), 7, false)
		}
	}
}

func TestP5_1Theta(t *testing.T) {
	for priority := range api.MaxTasks + 1 {
		for theta := range api.MaxTasks + 2 {
			wantIs(t, moded(api.Thresh, 0, theta), priority, theta <= priority)
			wantIs(t, moded(api.Fixed, 0, theta), priority, theta == 0)
			wantIs(t, moded(api.Float, 0, theta), priority, theta == 0)
			wantIs(t, moded(api.Float, 5, theta), priority, theta == 0)
			wantIs(t, moded(api.Thresh, 1, theta), priority, false)
		}
	}
	for _, theta := range []int{-1, math.MinInt, math.MaxInt, -1 << 32, 1 << 32} {
		for mode := range 3 {
			wantIs(t, moded(mode, 0, theta), 7, false)
		}
	}
	for _, priority := range []int{-1, math.MinInt} {
		wantIs(t, moded(api.Thresh, 0, 0), priority, false)
		wantIs(t, moded(api.Thresh, 0, priority), priority, false)
	}
	wantIs(t, moded(api.Thresh, 0, math.MaxInt), math.MaxInt, true)
}

func TestP5_1Sets(t *testing.T) {
	for _, x := range []struct {
		ecb, ucb uint64
		want     bool
	}{
		{0, 0, true}, {7, 0, true}, {7, 5, true}, {7, 7, true}, {7, 8, false}, {7, 15, false}, {0, 1, false}, {5, 7, false},
		{math.MaxUint64, math.MaxUint64, true}, {math.MaxUint64, 0, true}, {0, math.MaxUint64, false},
		{math.MaxUint64 >> 1, math.MaxUint64, false}, {math.MaxUint64 - 1, 1, false},
	} {
		wantIs(t, touching(x.ecb, x.ucb), 0, x.want)
	}
	for i := range api.Sets {
		for k := range api.Sets {
			wantIs(t, touching(1<<i, 1<<k), 0, i == k)
			wantIs(t, touching(^(1<<i), 1<<k), 0, i != k)
		}
	}
}

func TestP5_1Work(t *testing.T) {
	for _, x := range []struct {
		row  []int64
		want int64
	}{
		{[]int64{1}, 1}, {[]int64{3, 4, 5}, 12}, {[]int64{10000}, 10000}, {rowOf(8, 1250), 10000}, {[]int64{1, 2, 4, 8, 16, 32, 64, 128}, 255},
	} {
		if got := Work(timed(10000, 10000, x.row...)); got != x.want {
			t.Errorf("Work(%v) = %d", x.row, got)
		}
	}
}

func TestP5_1All(t *testing.T) {
	for n := range api.MaxTasks + 3 {
		wantAll(t, setOf(5, tasksOf(n)...), 1 <= n && n <= api.MaxTasks)
	}
	wantAll(t, api.Set{}, false)
	wantAll(t, api.Set{Tasks: []api.Task{}}, false)
	wantAll(t, setOf(0, make([]api.Task, 100000)...), false)
	for _, reload := range []int64{0, 1, api.MaxTime - 1, api.MaxTime} {
		wantAll(t, setOf(reload, plain()), true)
	}
	for _, reload := range []int64{-1, api.MaxTime + 1, math.MinInt64, math.MaxInt64, 1 << 32} {
		wantAll(t, setOf(reload, plain()), false)
	}
}

func TestP5_1AllByPlace(t *testing.T) {
	for n := 1; n <= api.MaxTasks; n++ {
		for at := range n {
			l := tasksOf(n)
			l[at].D = l[at].T + 1
			wantAll(t, setOf(0, l...), false)
			for theta := range api.MaxTasks + 1 {
				l = tasksOf(n)
				l[at].Mode, l[at].Theta = api.Thresh, theta
				wantAll(t, setOf(0, l...), theta <= at)
			}
		}
	}
	a, b := named("a"), moded(api.Thresh, 0, 1)
	b.Name = "b"
	wantAll(t, setOf(0, a, b), true)
	wantAll(t, setOf(0, b, a), false)
}

func TestP5_1AllNames(t *testing.T) {
	for n := 2; n <= api.MaxTasks; n++ {
		for at := range n {
			for other := range at {
				l := tasksOf(n)
				l[at].Name = l[other].Name
				l[at].T, l[at].Regions, l[at].ECB, l[at].UCB = 100, []int64{1}, 0, 0
				wantAll(t, setOf(0, l...), false)
			}
		}
	}
	wantAll(t, setOf(0, named("a"), named("aa"), named("a_")), true)
}

func TestP5_1Same(t *testing.T) {
	whole := func() api.Set {
		return setOf(3, named("a"), with(func(t *api.Task) { t.Name, t.Mode, t.Q = "b", api.Float, 4 }), with(func(t *api.Task) { t.Name, t.Mode, t.Theta = "c", api.Thresh, 1 }))
	}
	wantSame(t, whole(), whole(), true)
	wantSame(t, api.Set{}, api.Set{}, true)
	wantSame(t, api.Set{}, api.Set{Tasks: []api.Task{}}, true)
	wantSame(t, setOf(0, timed(1, 1)), setOf(0, timed(1, 1, []int64{}...)), true)
	for n, change := range []func(s *api.Set){
		func(s *api.Set) { s.Reload++ },
		func(s *api.Set) { s.Tasks = s.Tasks[:2] },
		func(s *api.Set) { s.Tasks = s.Tasks[1:] },
		func(s *api.Set) { s.Tasks = nil },
		func(s *api.Set) { s.Tasks = append(s.Tasks, plain()) },
		func(s *api.Set) { s.Tasks = append(s.Tasks, api.Task{}) },
		func(s *api.Set) { slices.Reverse(s.Tasks) },
		func(s *api.Set) { s.Tasks[0], s.Tasks[1] = s.Tasks[1], s.Tasks[0] },
	} {
		s := whole()
		change(&s)
		if Same(s, whole()) || Same(whole(), s) {
			t.Errorf("change %d of the set: the same", n)
		}
	}
	for n, change := range []func(t *api.Task){
		func(t *api.Task) { t.Name = "d" },
		func(t *api.Task) { t.Name += " " },
		func(t *api.Task) { t.T++ },
		func(t *api.Task) { t.D++ },
		func(t *api.Task) { t.Mode++ },
		func(t *api.Task) { t.Q++ },
		func(t *api.Task) { t.Theta++ },
		func(t *api.Task) { t.ECB ^= 1 << 63 },
		func(t *api.Task) { t.UCB ^= 1 << 2 },
		func(t *api.Task) { t.Regions = nil },
		func(t *api.Task) { t.Regions = t.Regions[:2] },
		func(t *api.Task) { t.Regions = t.Regions[1:] },
		func(t *api.Task) { t.Regions = append(t.Regions, 0) },
		func(t *api.Task) { t.Regions = []int64{3, 4, 6} },
		func(t *api.Task) { t.Regions = []int64{3, 5, 4} },
		func(t *api.Task) { t.Regions = []int64{12} },
	} {
		for at := range 3 {
			s := whole()
			change(&s.Tasks[at])
			if Same(s, whole()) || Same(whole(), s) {
				t.Errorf("change %d of task %d: the same", n, at)
			}
		}
	}
}

// Same is asked of what may not be, too: nothing in it hangs on whether it may be.
func TestP5_1SameOfWhatMayNotBe(t *testing.T) {
	bad := func() api.Set {
		return setOf(-1, api.Task{Name: "\xff", T: math.MinInt64, D: math.MaxInt64, Mode: -7, Q: -1, Theta: -1, Regions: rowOf(20, -1), UCB: 1}, api.Task{})
	}
	wantSame(t, bad(), bad(), true)
	other := bad()
	other.Tasks[0].Regions[19] = 0
	wantSame(t, bad(), other, false)
}

// pick is one of several, by chance.
func pick[V any](r *rand.Rand, l ...V) V { return l[r.Intn(len(l))] }

// anyTask is a task of which some field may be just beyond what is asked.
func anyTask(r *rand.Rand) api.Task {
	x := api.Task{Name: pick(r, "a", "b", "c", "d", "e", "f", "g_1", "abcdefghijkl"), T: 30, D: 25, ECB: 15}
	for range pick(r, 1, 1, 2, 3, 8, 8, 8, 8, 9) {
		x.Regions = append(x.Regions, pick[int64](r, 1, 2, 3, 3, 4))
	}
	x.Mode = r.Intn(3)
	switch x.Mode {
	case api.Float:
		x.Q = pick[int64](r, 0, 1, 9999, 10000)
	case api.Thresh:
		x.Theta = pick(r, 0, 0, 0, 1, 2, 7)
	}
	switch r.Intn(40) {
	case 0:
		x.Name = pick(r, "", "a b", "task", "A", "abcdefghijklm", "a\n", "#", "9")
	case 1:
		x.T = pick[int64](r, 24, 25, 10000, 10001, -1, math.MinInt64, math.MaxInt64)
	case 2:
		x.D = pick[int64](r, 30, 31, 1, 0, -1, math.MinInt64, math.MaxInt64)
	case 3:
		x.Mode = pick(r, -1, 0, 1, 2, 3)
	case 4:
		x.Q = pick[int64](r, -1, 1, 10001)
	case 5:
		x.Theta = pick(r, -1, 1, 8)
	case 6:
		x.Regions[r.Intn(len(x.Regions))] = pick[int64](r, 0, -1, 10001, math.MinInt64, math.MaxInt64)
	case 7:
		x.UCB = pick[uint64](r, 1, 16, 1<<63, 15, 31)
	}
	return x
}

func TestP5_1ByChance(t *testing.T) {
	r := rand.New(rand.NewSource(5))
	tasks, sets := map[bool]int{}, map[bool]int{}
	for range 40000 {
		s := api.Set{Reload: pick[int64](r, 0, 0, 0, 0, 5, 10000, 10001, -1)}
		for range r.Intn(6) {
			x, priority := anyTask(r), r.Intn(4)
			wantIs(t, x, priority, told(x, priority))
			tasks[told(x, priority)]++
			s.Tasks = append(s.Tasks, x)
		}
		wantAll(t, s, toldAll(s))
		sets[toldAll(s)]++
	}
	if tasks[true] < 1000 || tasks[false] < 1000 || sets[true] < 1000 || sets[false] < 1000 {
		t.Errorf("hardly any of one kind: tasks %v, sets %v", tasks, sets)
	}
}

// roomy is a set whose lists have spare room with something in it.
func roomy(r *rand.Rand) api.Set {
	s := api.Set{Reload: 4}
	for range r.Intn(10) {
		x := anyTask(r)
		n := len(x.Regions)
		x.Regions = append(x.Regions, 77, 78, 79)[:n]
		s.Tasks = append(s.Tasks, x)
	}
	n := len(s.Tasks)
	s.Tasks = append(s.Tasks, named("spare"), named("spare"))[:n]
	return s
}

// deep is a copy of a set with its lists' spare room, sharing no memory.
func deep(s api.Set) api.Set {
	s.Tasks = slices.Clone(s.Tasks[:cap(s.Tasks)])
	for i := range s.Tasks {
		regions := s.Tasks[i].Regions
		s.Tasks[i].Name = strings.Clone(s.Tasks[i].Name)
		s.Tasks[i].Regions = slices.Clone(regions[:cap(regions)])
	}
	return s
}

func TestP5_2NotChanged(t *testing.T) {
	r := rand.New(rand.NewSource(52))
	for range 3000 {
		a, b := roomy(r), roomy(r)
		wasA, wasB := deep(a), deep(b)
		All(a)
		Same(a, b)
		Same(a, a)
		for i, x := range b.Tasks {
			Is(x, i)
			if told(x, i) {
				Work(x)
			}
		}
		if !reflect.DeepEqual(deep(a), wasA) || !reflect.DeepEqual(deep(b), wasB) {
			t.Fatalf("changed: %+v is now %+v, %+v is now %+v", wasA, deep(a), wasB, deep(b))
		}
	}
}

// What is handed in is not kept either: a list that is changed afterwards is asked anew.
func TestP5_2NotKept(t *testing.T) {
	s, other := setOf(0, tasksOf(3)...), setOf(0, tasksOf(3)...)
	wantAll(t, s, true)
	wantSame(t, s, other, true)
	s.Tasks[1].Regions[0] = 0
	wantAll(t, s, false)
	wantSame(t, s, other, false)
	s.Tasks[1].Regions[0] = 3
	wantAll(t, s, true)
	wantSame(t, s, other, true)
}

// Work of what may not be is not asked, but it ends.
func TestP5_2WorkEnds(t *testing.T) {
	for _, row := range [][]int64{nil, {}, {-1}, {math.MaxInt64, math.MaxInt64}, {math.MinInt64, -1}, rowOf(100000, math.MaxInt64)} {
		Work(timed(1, 1, row...))
	}
}
