package again

import (
	"fmt"
	"math"
	"math/rand"
	"reflect"
	"slices"
	"strconv"
	"strings"
	"testing"

	"taskmaster/api"
	"taskmaster/cost"
	"taskmaster/task"
)

const all = math.MaxUint64

// odd are priorities that no set has a task of.
var odd = []int{-1, -2, math.MinInt, math.MaxInt, math.MinInt32, math.MaxInt32, -1 << 32, 1 << 32, 1 << 40, api.MaxTasks, api.MaxTasks + 1, 64}

// one is a task that touches cache sets, and needs some of them again.
func one(name string, ecb, ucb uint64, regions ...int64) api.Task {
	return api.Task{Name: name, T: api.MaxTime, D: api.MaxTime, Regions: regions, ECB: ecb, UCB: ucb}
}

func setOf(reload int64, l ...api.Task) api.Set { return api.Set{Reload: reload, Tasks: l} }

// rowOf is a set of the cache sets of its tasks: one's ECB, its UCB, and so on; the task of priority i works i + 3 ticks.
func rowOf(reload int64, l ...uint64) api.Set {
	s := setOf(reload)
	for i := 0; i < len(l); i += 2 {
		s.Tasks = append(s.Tasks, one("t"+strconv.Itoa(i), l[i], l[i+1], int64(i/2)+2, 1))
	}
	return s
}

// example is the chapter's: cache sets 1 2 3; below it 2, and 3 4.
func example() api.Set { return rowOf(2, 0b1110, 0, 0b100, 0b100, 0b11000, 0b11000) }

// answer is what all three calls answer.
type answer struct {
	own, made int64
	cost      complex128
	ok        bool
}

func asked(s api.Set, i int) answer {
	c, ok := Cost(s, i)
	return answer{Own(s, i), Made(s, i), c, ok}
}

// digits is the cache sets, as they are written.
func digits(x uint64) string { return fmt.Sprintf("%064b", x) }

// told is what the chapter asks of a set that may be, digit by digit, tick by tick.
func told(s api.Set, i int) answer {
	if i < 0 || i >= len(s.Tasks) {
		return answer{}
	}
	work, x := int64(0), answer{ok: true}
	for _, r := range s.Tasks[i].Regions {
		work += r
	}
	for k := range api.Sets {
		if digits(s.Tasks[i].UCB)[k] == '1' {
			x.own += s.Reload
		}
		for below := len(s.Tasks) - 1; below > i; below-- {
			if digits(s.Tasks[i].ECB)[k] == '1' && digits(s.Tasks[below].UCB)[k] == '1' {
				x.made += s.Reload
				break
			}
		}
	}
	x.cost = complex(float64(work), float64(x.made))
	return x
}

// want asks for one task's answers.
func want(t *testing.T, s api.Set, i int, x answer) {
	t.Helper()
	if got := asked(s, i); got != x {
		t.Errorf("of %d in %+v: %+v, want %+v", i, s, got, x)
	}
}

// wantRow asks for what each task of a set has, and for nothing beyond them.
func wantRow(t *testing.T, s api.Set, own, made []int64) {
	t.Helper()
	if !task.All(s) || len(own) != len(s.Tasks) || len(made) != len(s.Tasks) {
		t.Fatalf("no question: %+v", s)
	}
	for i, x := range s.Tasks {
		want(t, s, i, answer{own[i], made[i], complex(float64(task.Work(x)), float64(made[i])), true})
	}
	wantNone(t, s, append([]int{len(s.Tasks)}, odd...)...)
}

// wantTold asks for what the chapter asks, of each task and beyond them.
func wantTold(t *testing.T, s api.Set) {
	t.Helper()
	if !task.All(s) {
		t.Fatalf("a set that may not be: %+v", s)
	}
	for i := -2; i < len(s.Tasks)+3; i++ {
		want(t, s, i, told(s, i))
	}
}

// wantNone asks for nothing at some priorities.
func wantNone(t *testing.T, s api.Set, l ...int) {
	t.Helper()
	for _, i := range l {
		want(t, s, i, answer{})
	}
}

func TestP8_1Example(t *testing.T) {
	s := example()
	wantRow(t, s, []int64{0, 2, 4}, []int64{4, 0, 0})
	if c, ok := Cost(s, 0); c != 3+4i || !ok {
		t.Errorf("Cost = %v, %v", c, ok)
	}
	s.Tasks[0].UCB = 0b110
	wantRow(t, s, []int64{4, 2, 4}, []int64{4, 0, 0})
}

// Of each number that is no task's priority there is nothing, in sets of any size.
func TestP8_1Priorities(t *testing.T) {
	for n := 1; n <= api.MaxTasks; n++ {
		s := rowOf(7, slices.Repeat([]uint64{all, all}, n)...)
		for i := range n {
			x := told(s, i)
			if x.own == 0 || !x.ok {
				t.Fatalf("no question: %+v", x)
			}
			want(t, s, i, x)
		}
		wantNone(t, s, n, n+1, 2*n, -n, -n-1)
		wantNone(t, s, odd...)
		for i := range n { // those that come back among its priorities, if cut to fewer digits
			for shift := 8; shift < 63; shift++ {
				wantNone(t, s, i+1<<shift, i-1<<shift)
			}
			wantNone(t, s, i+math.MinInt, -i-1)
		}
	}
}

func TestP8_1Own(t *testing.T) {
	wantRow(t, rowOf(5, 0, 0), []int64{0}, []int64{0})
	wantRow(t, rowOf(5, 1, 0), []int64{0}, []int64{0})
	wantRow(t, rowOf(5, all, 0), []int64{0}, []int64{0})
	wantRow(t, rowOf(5, 1, 1), []int64{5}, []int64{0})
	wantRow(t, rowOf(5, 1<<63, 1<<63), []int64{5}, []int64{0})
	wantRow(t, rowOf(5, all, 1<<63), []int64{5}, []int64{0})
	wantRow(t, rowOf(5, all, 1<<63|1), []int64{10}, []int64{0})
	wantRow(t, rowOf(5, all, all), []int64{320}, []int64{0})
	// each has its own alone, whatever the others need
	wantRow(t, rowOf(3, 0b1, 0b1, 0b111, 0b111, 0b11, 0b11), []int64{3, 9, 6}, []int64{3, 6, 0})
	wantRow(t, rowOf(3, 0, 0, all, all, 0, 0), []int64{0, 192, 0}, []int64{0, 0, 0})
}

// A cache set counts once, however many tasks below need it, and from whichever of them.
func TestP8_1CountedOnce(t *testing.T) {
	wantRow(t, rowOf(5, 1, 0, 1, 1, 1, 1, 1, 1), []int64{0, 5, 5, 5}, []int64{5, 5, 5, 0})
	wantRow(t, rowOf(5, 0b11, 0, 0b11, 0b01, 0b11, 0b10, 0b11, 0b11), []int64{0, 5, 5, 10}, []int64{10, 10, 10, 0})
	wantRow(t, rowOf(5, 0b11, 0, 0b01, 0b01, 0b10, 0b10, 0b01, 0b01), []int64{0, 5, 5, 5}, []int64{10, 5, 0, 0})
	wantRow(t, rowOf(1, all, 0, all, all, all, all), []int64{0, 64, 64}, []int64{64, 64, 0})
	const half = 1<<32 - 1
	wantRow(t, rowOf(1, all, 0, half, half, all, all^half), []int64{0, 32, 32}, []int64{64, 0, 0})
}

// A cache set that only the task itself needs, or only a higher one, makes nothing; nor does one that is not touched.
func TestP8_1WhoNeedsIt(t *testing.T) {
	wantRow(t, rowOf(5, 1, 1, 1, 0, 1, 0), []int64{5, 0, 0}, []int64{0, 0, 0})
	wantRow(t, rowOf(5, 1, 0, 1, 1, 1, 0), []int64{0, 5, 0}, []int64{5, 0, 0})
	wantRow(t, rowOf(5, 1, 0, 1, 0, 1, 1), []int64{0, 0, 5}, []int64{5, 5, 0})
	wantRow(t, rowOf(5, 1, 1, 1, 1, 1, 0), []int64{5, 5, 0}, []int64{5, 0, 0})
	wantRow(t, rowOf(5, 0, 0, 1, 1, 1, 1), []int64{0, 5, 5}, []int64{0, 5, 0})
	// touched below, but needed by none
	wantRow(t, rowOf(5, all, all, all, 0), []int64{320, 0}, []int64{0, 0})
	// needed below, but not touched
	wantRow(t, rowOf(5, 0b0101, 0b0101, 0b1010, 0b1010), []int64{10, 10}, []int64{0, 0})
	wantRow(t, rowOf(5, 0, 0, all, all), []int64{0, 320}, []int64{0, 0})
	// the one that is touched counts, whether the task itself needs it or not
	wantRow(t, rowOf(5, 0b11, 0b10, 0b11, 0b01), []int64{5, 5}, []int64{5, 0})
}

// Each cache set by itself, touched at one place and needed at another, of one task up to MaxTasks.
func TestP8_1EachCacheSet(t *testing.T) {
	for k := range api.Sets {
		x := uint64(1) << k
		for n := 1; n <= api.MaxTasks; n++ {
			for touched := range n {
				for needed := range n {
					l := make([]uint64, 2*n)
					l[2*touched], l[2*needed], l[2*needed+1] = x, x, x
					own, made := make([]int64, n), make([]int64, n)
					own[needed] = 9
					if touched < needed {
						made[touched] = 9
					}
					wantRow(t, rowOf(9, l...), own, made)
				}
			}
		}
	}
}

// Each number of cache sets, with each Reload at an edge.
func TestP8_1HowMuch(t *testing.T) {
	for n := range int64(api.Sets + 1) {
		x := uint64(1)<<n - 1 // a shift by 64 leaves nothing, and so all
		y := ^(uint64(all) >> n)
		for _, reload := range []int64{0, 1, 2, 3, 9999, api.MaxTime} {
			wantRow(t, rowOf(reload, x, 0, x, x), []int64{0, reload * n}, []int64{reload * n, 0})
			wantRow(t, rowOf(reload, all, 0, y, y), []int64{0, reload * n}, []int64{reload * n, 0})
			wantRow(t, rowOf(reload, y, 0, all, all), []int64{0, reload * 64}, []int64{reload * n, 0})
		}
	}
	for reload := range int64(api.MaxTime + 1) {
		wantRow(t, rowOf(reload, 0b111, 0b1, 0b110, 0b110), []int64{reload, 2 * reload}, []int64{2 * reload, 0})
	}
}

// The parts of a cost, where one of them is 0, and the greatest that they may be.
func TestP8_1Cost(t *testing.T) {
	long, short := int64(api.MaxTime), int64(1)
	for _, x := range []struct {
		reload, work int64
		ecb          uint64
		cost         complex128
	}{
		{0, short, all, 1}, {0, long, all, 10000}, {api.MaxTime, short, 0, 1}, {api.MaxTime, long, 0, 10000},
		{api.MaxTime, short, all, 1 + 640000i}, {api.MaxTime, long, all, 10000 + 640000i},
		{1, short, 1, 1 + 1i}, {7, 2, 3, 2 + 14i}, {2, 7, 3, 7 + 4i},
	} {
		s := setOf(x.reload, one("a", x.ecb, 0, x.work), one("b", all, all, 3))
		want(t, s, 0, answer{0, int64(imag(x.cost)), x.cost, true})
		want(t, s, 1, answer{x.reload * 64, 0, 3, true})
		c, _ := Cost(s, 0)
		if cost.Work(c) != x.work || cost.Again(c) != Made(s, 0) {
			t.Errorf("the parts of %v: %d, %d", c, cost.Work(c), cost.Again(c))
		}
	}
	// all regions together, however many
	regions := []int64{1, 20, 300, 4000, 5, 60, 700, 3}
	for n := range regions {
		s := setOf(4, one("a", 3, 3, regions[:n+1]...), one("b", 2, 2, 1))
		sum := []float64{1, 21, 321, 4321, 4326, 4386, 5086, 5089}[n]
		want(t, s, 0, answer{8, 4, complex(sum, 4), true})
	}
	for work := int64(1); work <= api.MaxTime; work++ {
		want(t, setOf(5, one("a", 3, 1, work), one("b", 2, 2, 1)), 0, answer{5, 5, complex(float64(work), 5), true})
	}
}

// Neither period, deadline, mode nor name is of any weight.
func TestP8_1NothingElse(t *testing.T) {
	for mode := range 3 {
		for _, n := range []int64{0, 1, api.MaxTime} {
			s := rowOf(6, 0b111, 0b1, 0b11, 0b10, 0b1, 0b1)
			for i := range s.Tasks {
				s.Tasks[i].Mode, s.Tasks[i].T, s.Tasks[i].D = mode, 100*int64(i+1), 50*int64(i+1)
				s.Tasks[i].Name = string([]byte{"zma"[i]})
				switch mode {
				case api.Float:
					s.Tasks[i].Q = n
				case api.Thresh:
					s.Tasks[i].Theta = min(int(n), i)
				}
			}
			wantRow(t, s, []int64{6, 6, 6}, []int64{12, 6, 0})
		}
	}
}

// All sets of up to three tasks with two cache sets.
func TestP8_1AllSmall(t *testing.T) {
	var pairs [][2]uint64
	for ecb := range uint64(4) {
		for ucb := range uint64(4) {
			if ucb&^ecb == 0 {
				pairs = append(pairs, [2]uint64{ecb << 31, ucb << 31})
			}
		}
	}
	for _, a := range pairs {
		wantTold(t, rowOf(3, a[:]...))
		for _, b := range pairs {
			wantTold(t, rowOf(3, slices.Concat(a[:], b[:])...))
			for _, c := range pairs {
				wantTold(t, rowOf(3, slices.Concat(a[:], b[:], c[:])...))
			}
		}
	}
}

// pick is one of several numbers, by chance.
func pick(r *rand.Rand, l ...int64) int64 { return l[r.Intn(len(l))] }

// anyTask is a task that may be at a place.
func anyTask(r *rand.Rand, at int) api.Task {
	x := one(string([]byte{"abcdefgh"[at]}), 0, 0)
	most := pick(r, 1, 9, 1000, 1250)
	for range 1 + r.Intn(api.MaxRegions) {
		x.Regions = append(x.Regions, 1+r.Int63n(most))
	}
	if len(x.Regions) == 1 {
		x.Regions[0] = pick(r, 1, 5, 9999, api.MaxTime)
	}
	work := task.Work(x)
	x.D = pick(r, work, api.MaxTime, work+r.Int63n(api.MaxTime+1-work))
	x.T = pick(r, x.D, api.MaxTime)
	switch x.Mode = r.Intn(3); x.Mode {
	case api.Float:
		x.Q = pick(r, 0, 1, api.MaxTime)
	case api.Thresh:
		x.Theta = r.Intn(at + 1)
	}
	x.ECB = []uint64{0, 1, 1 << 63, all, r.Uint64(), r.Uint64() & r.Uint64() & r.Uint64(), r.Uint64() | r.Uint64()}[r.Intn(7)]
	x.UCB = x.ECB & []uint64{0, all, r.Uint64(), r.Uint64() & r.Uint64() & r.Uint64()}[r.Intn(4)]
	return x
}

// anySet is a set that may be.
func anySet(r *rand.Rand) api.Set {
	x := setOf(pick(r, 0, 1, 10, api.MaxTime, r.Int63n(api.MaxTime+1)))
	for at := range 1 + r.Intn(api.MaxTasks) {
		x.Tasks = append(x.Tasks, anyTask(r, at))
	}
	return x
}

func TestP8_1ByChance(t *testing.T) {
	r := rand.New(rand.NewSource(81))
	for range 5000 {
		wantTold(t, anySet(r))
	}
}

// spoiled are sets that may not be, each by one fault, in a task of each place or in the set itself.
func spoiled() []api.Set {
	var l []api.Set
	whole := func(change func(s *api.Set)) {
		s := rowOf(4, 0b111, 0b1, 0b11, 0b10, 0b1, 0b1)
		change(&s)
		l = append(l, s)
	}
	each := func(change func(t *api.Task)) {
		for i := range 3 {
			whole(func(s *api.Set) { change(&s.Tasks[i]) })
		}
	}
	for _, n := range []int64{-1, api.MaxTime + 1, math.MinInt64, math.MaxInt64, -1 << 32, 1 << 32} {
		whole(func(s *api.Set) { s.Reload = n })
		each(func(t *api.Task) { t.T = n })
		each(func(t *api.Task) { t.D = n })
		each(func(t *api.Task) { t.Mode, t.Q = api.Float, n })
		each(func(t *api.Task) { t.Mode, t.Theta = api.Thresh, int(n) })
		each(func(t *api.Task) { t.Mode = int(n) })
		each(func(t *api.Task) { t.Regions = []int64{n} })
		each(func(t *api.Task) { t.Regions = []int64{n, 1} })
	}
	for _, name := range []string{"", "A", "9", "task", " a", "a ", "a#", "é", "\xff", "abcdefghijklm", strings.Repeat("a", 1<<10)} {
		each(func(t *api.Task) { t.Name = name })
	}
	each(func(t *api.Task) { t.Regions = nil })
	each(func(t *api.Task) { t.Regions = []int64{0} })
	each(func(t *api.Task) { t.Regions = []int64{5000, 5000, 1} })
	each(func(t *api.Task) { t.Regions = slices.Repeat([]int64{1}, api.MaxRegions+1) })
	each(func(t *api.Task) { t.D = 1 })
	each(func(t *api.Task) { t.T-- })
	each(func(t *api.Task) { t.Q = 1 })
	each(func(t *api.Task) { t.Theta = 1 })
	each(func(t *api.Task) { t.Mode = 3 })
	each(func(t *api.Task) { t.UCB = 0b1000 })
	each(func(t *api.Task) { t.UCB = all })
	whole(func(s *api.Set) { s.Tasks[2].Name = s.Tasks[0].Name })
	whole(func(s *api.Set) { s.Tasks[2].Name = s.Tasks[1].Name })
	for _, n := range []int{api.MaxTasks + 1, api.MaxTasks + 2, 64, 1000} {
		l = append(l, rowOf(4, slices.Repeat([]uint64{all, all}, n)...))
	}
	return append(l, api.Set{}, setOf(4), api.Set{Reload: 4, Tasks: []api.Task{}}, setOf(4, api.Task{}))
}

// Of a set that may not be there is nothing, of any priority, whichever task is at fault.
func TestP8_1SetsThatMayNotBe(t *testing.T) {
	for _, s := range spoiled() {
		if task.All(s) {
			t.Fatalf("a set that may be: %+v", s)
		}
		for i := -2; i < len(s.Tasks)+2; i++ {
			wantNone(t, s, i)
		}
		wantNone(t, s, odd...)
	}
	wantRow(t, rowOf(4, 0b111, 0b1, 0b11, 0b10, 0b1, 0b1), []int64{4, 4, 4}, []int64{8, 4, 0})
}

// Made is at most Reload times how many ECB there are, and gets there; of the last task it is 0.
func TestP8_2AtMost(t *testing.T) {
	r := rand.New(rand.NewSource(82))
	met := 0
	for range 20000 {
		s := anySet(r)
		for i, x := range s.Tasks {
			most := s.Reload * int64(strings.Count(digits(x.ECB), "1"))
			made := Made(s, i)
			if made < 0 || made > most {
				t.Errorf("of %d in %+v: %d, more than %d", i, s, made, most)
			}
			if made == most && made > 0 {
				met++
			}
		}
		if last := len(s.Tasks) - 1; Made(s, last) != 0 {
			t.Errorf("of the last in %+v: %d", s, Made(s, last))
		}
	}
	if met < 1000 {
		t.Errorf("only %d times as much as may be", met)
	}
}

func TestP8_2Edges(t *testing.T) {
	for n := 1; n <= api.MaxTasks; n++ {
		own, made := slices.Repeat([]int64{640000}, n), slices.Repeat([]int64{640000}, n)
		made[n-1] = 0
		wantRow(t, rowOf(api.MaxTime, slices.Repeat([]uint64{all, all}, n)...), own, made)
		none := make([]int64, n)
		wantRow(t, rowOf(api.MaxTime, slices.Repeat([]uint64{all, 0}, n)...), none, none)
		wantRow(t, rowOf(api.MaxTime, slices.Repeat([]uint64{0, 0}, n)...), none, none)
		wantRow(t, rowOf(0, slices.Repeat([]uint64{all, all}, n)...), none, none)
	}
}

// spared is a set with room behind its lists' ends, and all of that room.
func spared(s api.Set) (api.Set, []api.Task, [][]int64) {
	tasks := append(slices.Clone(s.Tasks), one("spare", all, all, 5), one("room", all, all, 6))
	var rows [][]int64
	for i := range tasks {
		row := append(slices.Clone(tasks[i].Regions), 77, 88)
		rows = append(rows, row)
		tasks[i].Regions = row[:len(row)-2]
	}
	return api.Set{Reload: s.Reload, Tasks: tasks[:len(s.Tasks)]}, tasks, rows
}

// What is handed in is as it was, its lists' spare room too; and that room is no part of the set.
func TestW6HandedIn(t *testing.T) {
	r := rand.New(rand.NewSource(86))
	sets := spoiled()
	for range 500 {
		sets = append(sets, anySet(r))
	}
	for _, s := range sets {
		x, tasks, rows := spared(s)
		_, wantTasks, wantRows := spared(s)
		for i := -1; i < len(s.Tasks)+3; i++ {
			want(t, x, i, asked(s, i))
		}
		if !reflect.DeepEqual(tasks, wantTasks) || !reflect.DeepEqual(rows, wantRows) || x.Reload != s.Reload {
			t.Fatalf("%+v has changed: %+v, %v", s, tasks, rows)
		}
	}
}

// An answer hangs on nothing that was asked ahead of it.
func TestW2AskedAgain(t *testing.T) {
	r := rand.New(rand.NewSource(80))
	sets := []api.Set{example(), {}, rowOf(3, all, all), setOf(-1, one("a", 1, 1, 1))}
	for range 8 {
		sets = append(sets, anySet(r))
	}
	for _, s := range sets {
		for i := -1; i < api.MaxTasks+1; i++ {
			first := asked(s, i)
			for _, other := range sets {
				for k := -1; k < len(other.Tasks)+1; k++ {
					asked(other, k)
				}
				want(t, s, i, first)
			}
		}
	}
}
