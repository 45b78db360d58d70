package show

import (
	"fmt"
	"math"
	"math/rand"
	"reflect"
	"regexp"
	"slices"
	"strconv"
	"strings"
	"testing"
	"unsafe"

	"taskmaster/api"
	"taskmaster/parse"
	"taskmaster/task"
)

const language = "reload task period deadline fixed float thresh regions ecb ucb"

// plain is the chapter's example.
func plain() api.Task {
	return api.Task{Name: "a", T: 5, D: 5, Regions: []int64{2, 1}}
}

// with is the plain task, changed.
func with(change func(t *api.Task)) api.Task {
	t := plain()
	change(&t)
	return t
}

func named(name string) api.Task { return with(func(t *api.Task) { t.Name = name }) }

func timed(period, deadline int64, regions ...int64) api.Task {
	return with(func(t *api.Task) { t.T, t.D, t.Regions = period, deadline, regions })
}

func moded(mode int, q int64, theta int) api.Task {
	return with(func(t *api.Task) { t.Mode, t.Q, t.Theta = mode, q, theta })
}

func touching(ecb, ucb uint64) api.Task {
	return with(func(t *api.Task) { t.ECB, t.UCB = ecb, ucb })
}

func setOf(reload int64, l ...api.Task) api.Set { return api.Set{Reload: reload, Tasks: l} }

// tasksOf is n tasks with names of their own.
func tasksOf(n int) []api.Task {
	var l []api.Task
	for i := range n {
		l = append(l, named("t"+strconv.Itoa(i)))
	}
	return l
}

// longest is a task whose text is as long as that of a task that may be can be.
func longest(name string) api.Task {
	return api.Task{Name: name, T: api.MaxTime, D: api.MaxTime, Mode: api.Float, Q: api.MaxTime,
		Regions: slices.Repeat([]int64{1250}, api.MaxRegions), ECB: math.MaxUint64, UCB: math.MaxUint64}
}

// longestSet is n of the longest tasks.
func longestSet(n int) api.Set {
	x := setOf(api.MaxTime)
	for i := range n {
		x.Tasks = append(x.Tasks, longest("abcdefghij"+strconv.Itoa(10+i)))
	}
	return x
}

// toldRow is a row of cache sets, read off the number's binary digits as they are written.
func toldRow(word string, x uint64) string {
	s := ""
	digits := fmt.Sprintf("%064b", x)
	for i := range digits {
		if digits[63-i] == '1' {
			s += fmt.Sprint(" ", i)
		}
	}
	if s != "" {
		s = " " + word + s
	}
	return s
}

// told is what the chapter asks of a task.
func told(t api.Task) string {
	mode := [...]string{"fixed", fmt.Sprint("float ", t.Q), fmt.Sprint("thresh ", t.Theta)}[t.Mode]
	regions := strings.Trim(fmt.Sprint(t.Regions), "[]")
	return fmt.Sprintf("task %s period %d deadline %d %s regions %s%s%s;",
		t.Name, t.T, t.D, mode, regions, toldRow("ecb", t.ECB), toldRow("ucb", t.UCB))
}

// toldSet is what the chapter asks of a set.
func toldSet(s api.Set) string {
	text := fmt.Sprintf("reload %d;\n", s.Reload)
	for _, t := range s.Tasks {
		text += told(t) + "\n"
	}
	return text
}

// wantTask asks for a task's text, and for the same within a set's.
func wantTask(t *testing.T, x api.Task, want string) {
	t.Helper()
	if got := Task(x); got != want {
		t.Errorf("Task(%+v) = %q, want %q", x, got, want)
	}
	if got := Text(setOf(7, x)); got != "reload 7;\n"+want+"\n" {
		t.Errorf("Text of %+v = %q, want %q within it", x, got, want)
	}
}

// wantText asks for a set's text.
func wantText(t *testing.T, s api.Set, want string) {
	t.Helper()
	if got := Text(s); got != want {
		t.Errorf("Text(%+v) = %q, want %q", s, got, want)
	}
}

// wantBack asks for the chapter's text of a set that may be, and that it is read as that set.
func wantBack(t *testing.T, s api.Set) {
	t.Helper()
	if !task.All(s) {
		t.Fatalf("a set that may not be: %+v", s)
	}
	wantText(t, s, toldSet(s))
	text := Text(s)
	x, at, err := parse.Parse(text)
	if err != api.OK || at != len(text) || !task.Same(x, s) || !reflect.DeepEqual(x, s) {
		t.Errorf("Parse of the text of %+v = %+v, %d, %d", s, x, at, err)
	}
}

func TestP7_1Example(t *testing.T) {
	wantTask(t, plain(), "task a period 5 deadline 5 fixed regions 2 1;")
	wantText(t, setOf(0, plain()), "reload 0;\ntask a period 5 deadline 5 fixed regions 2 1;\n")
	wantText(t, api.Set{Reload: 7, Tasks: []api.Task{
		{Name: "high", T: 20, D: 15, Regions: []int64{1}},
		{Name: "b_2", T: 30, D: 25, Mode: api.Float, Q: 4, Regions: []int64{2, 3, 4}, ECB: 1 | 1<<5 | 1<<63},
		{Name: "c", T: 40, D: 39, Mode: api.Thresh, Theta: 1, Regions: []int64{6, 5}, ECB: 0b1110, UCB: 0b1010},
	}}, `reload 7;
task high period 20 deadline 15 fixed regions 1;
task b_2 period 30 deadline 25 float 4 regions 2 3 4 ecb 0 5 63;
task c period 40 deadline 39 thresh 1 regions 6 5 ecb 1 2 3 ucb 1 3;
`)
}

func TestP7_1Mode(t *testing.T) {
	const ahead, behind = "task a period 5 deadline 5 ", " regions 2 1;"
	wantTask(t, moded(api.Fixed, 0, 0), ahead+"fixed"+behind)
	wantTask(t, moded(api.Float, 0, 0), ahead+"float 0"+behind)
	wantTask(t, moded(api.Float, api.MaxTime, 0), ahead+"float 10000"+behind)
	wantTask(t, moded(api.Thresh, 0, 0), ahead+"thresh 0"+behind)
	wantTask(t, moded(api.Thresh, 0, api.MaxTasks-1), ahead+"thresh 7"+behind)
	for q := range int64(api.MaxTime + 1) {
		wantTask(t, moded(api.Float, q, 0), ahead+"float "+fmt.Sprint(q)+behind)
	}
	for theta := range api.MaxTasks {
		wantTask(t, moded(api.Thresh, 0, theta), ahead+"thresh "+fmt.Sprint(theta)+behind)
	}
	both := moded(api.Float, 3, 0)
	both.ECB, both.UCB = 6, 2
	wantTask(t, both, ahead+"float 3 regions 2 1 ecb 1 2 ucb 1;")
	both.Mode, both.Q, both.Theta = api.Thresh, 0, 4
	wantTask(t, both, ahead+"thresh 4 regions 2 1 ecb 1 2 ucb 1;")
}

// The regions stand in their own order, however many there are, and however long.
func TestP7_1Regions(t *testing.T) {
	const ahead = "task a period 10000 deadline 10000 fixed regions"
	wantTask(t, timed(api.MaxTime, api.MaxTime, 1), ahead+" 1;")
	wantTask(t, timed(api.MaxTime, api.MaxTime, api.MaxTime), ahead+" 10000;")
	wantTask(t, timed(api.MaxTime, api.MaxTime, 8, 7, 6, 5, 4, 3, 2, 1), ahead+" 8 7 6 5 4 3 2 1;")
	wantTask(t, timed(api.MaxTime, api.MaxTime, 5, 5, 5), ahead+" 5 5 5;")
	wantTask(t, timed(api.MaxTime, api.MaxTime, 10, 9, 100, 1, 1000), ahead+" 10 9 100 1 1000;")
	text, row := ahead, []int64(nil)
	for n := range int64(api.MaxRegions) {
		text += " " + strconv.FormatInt(1250-n, 10)
		row = append(row, 1250-n)
		wantTask(t, timed(api.MaxTime, api.MaxTime, row...), text+";")
	}
	for r := int64(1); r <= api.MaxTime; r++ {
		wantTask(t, timed(api.MaxTime, api.MaxTime, r), ahead+" "+fmt.Sprint(r)+";")
	}
}

func TestP7_1WhichRows(t *testing.T) {
	const ahead = "task a period 5 deadline 5 fixed regions 2 1"
	const last = 1 << 63
	all := ""
	for i := range api.Sets {
		all += " " + strconv.Itoa(i)
	}
	wantTask(t, touching(0, 0), ahead+";")
	wantTask(t, touching(16, 0), ahead+" ecb 4;")
	wantTask(t, touching(16, 16), ahead+" ecb 4 ucb 4;")
	wantTask(t, touching(14, 4), ahead+" ecb 1 2 3 ucb 2;")
	wantTask(t, touching(1, 0), ahead+" ecb 0;")
	wantTask(t, touching(1, 1), ahead+" ecb 0 ucb 0;")
	wantTask(t, touching(last, 0), ahead+" ecb 63;")
	wantTask(t, touching(last, last), ahead+" ecb 63 ucb 63;")
	wantTask(t, touching(last|1, 1), ahead+" ecb 0 63 ucb 0;")
	wantTask(t, touching(last|1, last), ahead+" ecb 0 63 ucb 63;")
	wantTask(t, touching(last|1, last|1), ahead+" ecb 0 63 ucb 0 63;")
	wantTask(t, touching(1<<9|1<<10|1<<2, 1<<10|1<<2), ahead+" ecb 2 9 10 ucb 2 10;")
	wantTask(t, touching(math.MaxUint64, 0), ahead+" ecb"+all+";")
	wantTask(t, touching(math.MaxUint64, last), ahead+" ecb"+all+" ucb 63;")
	wantTask(t, touching(math.MaxUint64, math.MaxUint64), ahead+" ecb"+all+" ucb"+all+";")
}

// All sets of one and of two numbers, and all but such, in both rows.
func TestP7_1CacheSets(t *testing.T) {
	for i := range api.Sets {
		for k := range i + 1 {
			x := uint64(1)<<i | uint64(1)<<k
			for _, y := range []api.Task{touching(x, 0), touching(x, x), touching(x, 1<<k), touching(^x, 0), touching(^x, ^x), touching(math.MaxUint64, x)} {
				wantTask(t, y, told(y))
			}
		}
	}
}

func TestP7_1Name(t *testing.T) {
	names := []string{"a", "z", "a0", "z_", "abcdefghijkl", "a__________9", "z99999999999", "reload_", "tas"}
	for c := byte('a'); c <= 'z'; c++ {
		names = append(names, string([]byte{c}), string([]byte{c, '_'}), string([]byte{'b', c}))
	}
	for _, word := range strings.Fields(language) {
		names = append(names, word+"0", word+"x")
	}
	for _, name := range names {
		wantTask(t, named(name), "task "+name+" period 5 deadline 5 fixed regions 2 1;")
	}
}

func TestP7_1Times(t *testing.T) {
	wantTask(t, timed(1, 1, 1), "task a period 1 deadline 1 fixed regions 1;")
	wantTask(t, timed(9, 8, 7), "task a period 9 deadline 8 fixed regions 7;")
	wantTask(t, timed(10000, 1, 1), "task a period 10000 deadline 1 fixed regions 1;")
	wantTask(t, timed(10000, 9999, 9998), "task a period 10000 deadline 9999 fixed regions 9998;")
	wantTask(t, timed(10000, 10000, 10000), "task a period 10000 deadline 10000 fixed regions 10000;")
	for n := int64(1); n <= api.MaxTime; n++ {
		wantTask(t, timed(n, n, 1), fmt.Sprintf("task a period %d deadline %d fixed regions 1;", n, n))
		wantTask(t, timed(api.MaxTime, n, 1), fmt.Sprintf("task a period 10000 deadline %d fixed regions 1;", n))
	}
}

func TestP7_1Reload(t *testing.T) {
	const behind = ";\ntask a period 5 deadline 5 fixed regions 2 1;\n"
	wantText(t, setOf(0, plain()), "reload 0"+behind)
	wantText(t, setOf(api.MaxTime, plain()), "reload 10000"+behind)
	for n := range int64(api.MaxTime + 1) {
		wantText(t, setOf(n, plain()), "reload "+fmt.Sprint(n)+behind)
	}
}

// The tasks stand in their own order, whatever their names are.
func TestP7_1HowManyTasks(t *testing.T) {
	text := "reload 4;\n"
	for n := range api.MaxTasks {
		text += "task t" + strconv.Itoa(n) + " period 5 deadline 5 fixed regions 2 1;\n"
		wantText(t, setOf(4, tasksOf(n+1)...), text)
	}
	wantText(t, setOf(1, named("c"), named("a"), timed(9, 9, 1), named("b")), "reload 1;\n"+
		"task c period 5 deadline 5 fixed regions 2 1;\ntask a period 5 deadline 5 fixed regions 2 1;\n"+
		"task a period 9 deadline 9 fixed regions 1;\ntask b period 5 deadline 5 fixed regions 2 1;\n")
}

var pattern = regexp.MustCompile(`\Areload \d+;\n(task [a-z][a-z0-9_]* period \d+ deadline \d+ ` +
	`(fixed|float \d+|thresh \d+) regions( \d+)+( ecb( \d+)+( ucb( \d+)+)?)?;\n)+\z`)

// One line feed ends each row, one blank stands between two tokens, and none elsewhere.
func TestP7_1Gaps(t *testing.T) {
	r := rand.New(rand.NewSource(71))
	sets := []api.Set{setOf(0, plain()), longestSet(8), setOf(3, tasksOf(8)...)}
	for range 3000 {
		sets = append(sets, anySet(r))
	}
	for _, s := range sets {
		text := Text(s)
		if !pattern.MatchString(text) {
			t.Errorf("another form: %q", text)
		}
		if strings.Count(text, "\n") != 1+len(s.Tasks) || strings.Count(text, ";") != 1+len(s.Tasks) {
			t.Errorf("not a row for each of %d tasks: %q", len(s.Tasks), text)
		}
		for _, x := range s.Tasks {
			if row := Task(x); strings.Join(strings.Fields(row), " ") != row || strings.Contains(row, " ;") {
				t.Errorf("a gap too many: %q", row)
			}
		}
	}
}

// pick is one of several numbers, by chance.
func pick(r *rand.Rand, l ...int64) int64 { return l[r.Intn(len(l))] }

// anyName is a name that no other place has; its letters make no word of the language.
func anyName(r *rand.Rand, at int) string {
	name := []byte{"abcdefgh"[at]}
	for range pick(r, 0, 1, 2, 5, api.MaxName-1) {
		name = append(name, "amnxyz0189_"[r.Intn(11)])
	}
	return string(name)
}

// anyTask is a task that may be at a place.
func anyTask(r *rand.Rand, at int) api.Task {
	x := api.Task{Name: anyName(r, at)}
	most := pick(r, 1, 9, 10, 99, 1000, 1250)
	for range 1 + r.Intn(api.MaxRegions) {
		x.Regions = append(x.Regions, 1+r.Int63n(most))
	}
	if len(x.Regions) == 1 {
		x.Regions[0] = pick(r, 1, 5, 9999, 10000)
	}
	work := task.Work(x)
	x.D = pick(r, work, api.MaxTime, work+r.Int63n(api.MaxTime+1-work))
	x.T = pick(r, x.D, api.MaxTime, x.D+r.Int63n(api.MaxTime+1-x.D))
	switch x.Mode = r.Intn(3); x.Mode {
	case api.Float:
		x.Q = pick(r, 0, 1, 9, 10, api.MaxTime, r.Int63n(api.MaxTime+1))
	case api.Thresh:
		x.Theta = int(pick(r, 0, int64(at), r.Int63n(int64(at)+1)))
	}
	x.ECB = []uint64{0, 1, 1 << 63, math.MaxUint64, r.Uint64(), r.Uint64() & r.Uint64() & r.Uint64()}[r.Intn(6)]
	x.UCB = x.ECB & []uint64{0, math.MaxUint64, r.Uint64(), 1, 1 << 63}[r.Intn(5)]
	return x
}

// anySet is a set that may be.
func anySet(r *rand.Rand) api.Set {
	x := setOf(pick(r, 0, 1, 10, api.MaxTime, r.Int63n(api.MaxTime+1)))
	for at := range 1 + r.Intn(api.MaxTasks) {
		x.Tasks = append(x.Tasks, anyTask(r, at))
	}
	return x
}

func TestP7_2Edges(t *testing.T) {
	for _, x := range []api.Task{
		plain(), timed(1, 1, 1), timed(10000, 10000, 10000), moded(api.Float, 0, 0), moded(api.Float, api.MaxTime, 0), moded(api.Thresh, 0, 0),
		touching(1, 0), touching(1, 1), touching(1<<63, 0), touching(1<<63, 1<<63), touching(math.MaxUint64, math.MaxUint64),
		touching(math.MaxUint64, 0), named("abcdefghijkl"), named("z"), longest("abcdefghijkl"),
	} {
		for _, reload := range []int64{0, 1, api.MaxTime} {
			wantBack(t, setOf(reload, x))
		}
	}
	for n := range api.MaxTasks {
		wantBack(t, setOf(2, tasksOf(n+1)...))
		wantBack(t, longestSet(n+1))
		for theta := range n + 1 {
			x := tasksOf(n + 1)
			x[n].Mode, x[n].Theta = api.Thresh, theta
			wantBack(t, setOf(2, x...))
		}
	}
}

func TestP7_2ByChance(t *testing.T) {
	r := rand.New(rand.NewSource(72))
	for range 20000 {
		wantBack(t, anySet(r))
	}
}

// No set that may be has a text that is too long for Parse.
func TestP7_2Longest(t *testing.T) {
	text := Text(longestSet(api.MaxTasks))
	if len(text) != 3846 || len(text) > api.MaxText {
		t.Errorf("the longest text has %d bytes", len(text))
	}
	r := rand.New(rand.NewSource(73))
	for range 20000 {
		if s := anySet(r); len(Text(s)) > len(text) {
			t.Errorf("a longer text: %+v", s)
		}
	}
}

// Sets of more tasks than may be can have a text that is too long for Parse; it is their text all the same.
func TestP7_2TooLong(t *testing.T) {
	edge := longestSet(9)
	const few = 1<<10 - 1 // the cache sets of one digit
	edge.Tasks[0].UCB, edge.Tasks[1].UCB = few, few
	for _, x := range []struct {
		name   string
		length int
		err    api.Errno
	}{{"abcdefghijk", api.MaxText, api.ErrArg}, {"abcdefghijkl", api.MaxText + 1, api.ErrLimit}} {
		edge.Tasks[0].Name = x.name
		wantText(t, edge, toldSet(edge))
		text := Text(edge)
		if got, at, err := parse.Parse(text); len(text) != x.length || len(got.Tasks) != 0 || at != 0 || err != x.err {
			t.Errorf("a text of %d bytes: %+v, %d, %d", len(text), got, at, err)
		}
	}
	for _, n := range []int{9, 10, 50, 1000} {
		s := longestSet(n)
		wantText(t, s, toldSet(s))
		if _, at, err := parse.Parse(Text(s)); at != 0 || err != api.ErrLimit {
			t.Errorf("%d of the longest tasks: %d, %d", n, at, err)
		}
	}
}

// spared is a set with room behind its lists' ends, and all of that room.
func spared(s api.Set) (api.Set, []api.Task, [][]int64) {
	tasks := append(slices.Clone(s.Tasks), named("spare"), named("room"))
	var rows [][]int64
	for i := range tasks {
		row := append(slices.Clone(tasks[i].Regions), 77, 88)
		rows = append(rows, row)
		tasks[i].Regions = row[:len(row)-2]
	}
	return api.Set{Reload: s.Reload, Tasks: tasks[:len(s.Tasks)]}, tasks, rows
}

// What is handed in is as it was, its lists' spare room too.
func TestW6HandedIn(t *testing.T) {
	r := rand.New(rand.NewSource(76))
	for range 2000 {
		s := anySet(r)
		x, tasks, rows := spared(s)
		_, wantTasks, wantRows := spared(s)
		wantText(t, x, toldSet(s))
		for _, y := range x.Tasks {
			Task(y)
		}
		if !reflect.DeepEqual(x, s) || !reflect.DeepEqual(tasks, wantTasks) || !reflect.DeepEqual(rows, wantRows) {
			t.Fatalf("%+v has changed: %+v, %v", s, tasks, rows)
		}
	}
}

// A text is no piece of what is handed in: it stays, whatever becomes of that.
func TestW6NoPiece(t *testing.T) {
	bytes := []byte("abc")
	x, tasks, rows := spared(setOf(3, named(unsafe.String(unsafe.SliceData(bytes), len(bytes)))))
	text, row := Text(x), Task(x.Tasks[0])
	clear(bytes)
	for _, l := range rows {
		clear(l)
	}
	clear(tasks)
	if want := "task abc period 5 deadline 5 fixed regions 2 1;"; row != want || text != "reload 3;\n"+want+"\n" {
		t.Errorf("a text has changed: %q, %q", text, row)
	}
}

// An answer hangs on nothing that was asked ahead of it.
func TestW2AskedAgain(t *testing.T) {
	sets := []api.Set{setOf(0, plain()), longestSet(8), setOf(3, tasksOf(8)...), setOf(1, touching(6, 2)), longestSet(20), {}}
	for range 3 {
		for _, s := range sets {
			for _, other := range sets {
				Text(other)
				wantText(t, s, toldSet(s))
			}
		}
	}
}

// Of what may not be nothing is said but that each call ends, without a panic.
func TestW1WhatMayNotBe(t *testing.T) {
	numbers := []int64{math.MinInt64, -1 << 32, -1, 0, 10001, 1 << 32, math.MaxInt64}
	names := []string{"", "task", " ", "\n", ";", "#", "\x00", "\xff", "é", strings.Repeat("a", 1<<20)}
	var l []api.Task
	for _, n := range numbers {
		l = append(l, timed(n, n), timed(n, n, n), timed(n, n, slices.Repeat([]int64{n}, 1000)...), timed(n, n, []int64{}...))
		for _, mode := range []int{math.MinInt, -1, api.Fixed, api.Float, api.Thresh, 3, math.MaxInt} {
			l = append(l, moded(mode, n, int(n)))
		}
	}
	for _, name := range names {
		l = append(l, named(name))
	}
	l = append(l, api.Task{}, touching(0, 1), touching(1, math.MaxUint64))
	for _, x := range l {
		Task(x)
		for _, n := range numbers {
			Text(setOf(n, x, x))
		}
	}
	Text(api.Set{})
	Text(api.Set{Tasks: []api.Task{}})
	Text(setOf(0, l...))
	Text(setOf(0, slices.Repeat([]api.Task{plain()}, 1<<16)...))
}
