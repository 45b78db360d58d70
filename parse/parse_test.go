package parse

import (
	"math/rand"
	"reflect"
	"slices"
	"strconv"
	"strings"
	"testing"
	"unsafe"

	"taskmaster/api"
	"taskmaster/lex"
	"taskmaster/task"
)

const language = "reload task period deadline fixed float thresh regions ecb ucb"

const (
	head = "reload 3; "
	good = "task a period 20 deadline 15 fixed regions 1;"
)

// full has all that a text may have, each token behind a blank.
const full = "reload 7 ; task a period 20 deadline 15 fixed regions 1 ; " +
	"task b period 30 deadline 25 float 4 regions 2 3 4 ecb 0 5 63 ; " +
	"task c period 40 deadline 40 thresh 1 regions 5 6 ecb 1 2 3 ucb 1 3 ;"

func fullSet() api.Set {
	return api.Set{Reload: 7, Tasks: []api.Task{
		{Name: "a", T: 20, D: 15, Regions: []int64{1}},
		{Name: "b", T: 30, D: 25, Mode: api.Float, Q: 4, Regions: []int64{2, 3, 4}, ECB: 1 | 1<<5 | 1<<63},
		{Name: "c", T: 40, D: 40, Mode: api.Thresh, Theta: 1, Regions: []int64{5, 6}, ECB: 0b1110, UCB: 0b1010},
	}}
}

// wantSet asks for a set.
func wantSet(t *testing.T, s string, want api.Set) {
	t.Helper()
	x, at, err := Parse(s)
	if err != api.OK || at != len(s) || !reflect.DeepEqual(x, want) {
		t.Errorf("Parse(%q) = %+v, %d, %d, want %+v", s, x, at, err, want)
	}
}

// wantTask asks for one task behind the head.
func wantTask(t *testing.T, text string, want api.Task) {
	t.Helper()
	wantSet(t, head+text, api.Set{Reload: 3, Tasks: []api.Task{want}})
}

// wantAt asks for an error at a place, and for an empty set beside it.
func wantAt(t *testing.T, s string, at int, err api.Errno) {
	t.Helper()
	x, gotAt, gotErr := Parse(s)
	if gotAt != at || gotErr != err || x.Reload != 0 || len(x.Tasks) != 0 {
		t.Errorf("Parse(%q) = %+v, %d, %d, want nothing, %d, %d", s, x, gotAt, gotErr, at, err)
	}
}

// wantErr asks for an error at the place that a ^ marks; the text is without it.
func wantErr(t *testing.T, marked string, err api.Errno) {
	t.Helper()
	before, after, found := strings.Cut(marked, "^")
	if !found {
		t.Fatalf("no place in %q", marked)
	}
	wantAt(t, before+after, len(before), err)
}

// grammar is the chapter's, as steps from state to state by the next token.
const grammar = `
begin: reload=load
load: number=loaded
loaded: ;=tasks
tasks: task=name end=done
name: name=named
named: period=period
period: number=lasting
lasting: deadline=deadline
deadline: number=mode
mode: fixed=regions float=q thresh=theta
q: number=regions
theta: number=regions
regions: regions=first
first: number=more
more: number=more ecb=ecb1 ucb=ucb1 ;=tasks
ecb1: number=ecb
ecb: number=ecb ucb=ucb1 ;=tasks
ucb1: number=ucb
ucb: number=ucb ;=tasks
`

// step is the state behind a token; none, if the token does not fit.
func step(state string, x api.Token) string {
	_, rest, _ := strings.Cut(grammar, "\n"+state+": ")
	line, _, _ := strings.Cut(rest, "\n")
	text := map[int]string{api.Name: "name", api.Num: "number", api.End: "end", api.Word: x.Text}[x.Kind]
	for _, way := range strings.Fields(line) {
		if by, to, _ := strings.Cut(way, "="); by == text {
			return to
		}
	}
	return ""
}

// reading is a text that is read up to a token.
type reading struct {
	x      api.Set
	starts []int
	ahead  int64
}

// note takes a token in, by the state in which it stands; false, if it is no cache set, or is too small.
func (r *reading) note(state string, x api.Token) bool {
	if state == "load" {
		r.x.Reload = x.N
	}
	if x.Text == "task" {
		r.x.Tasks, r.starts = append(r.x.Tasks, api.Task{}), append(r.starts, x.At)
	}
	if len(r.x.Tasks) == 0 {
		return true
	}
	t := &r.x.Tasks[len(r.x.Tasks)-1]
	switch {
	case state == "name":
		t.Name = x.Text
	case state == "period":
		t.T = x.N
	case state == "deadline":
		t.D = x.N
	case state == "mode":
		t.Mode = strings.Index("fixed float thresh", x.Text) / 6
	case state == "q":
		t.Q = x.N
	case state == "theta":
		t.Theta = int(x.N)
	case x.Kind == api.Num && (state == "first" || state == "more"):
		t.Regions = append(t.Regions, x.N)
	case x.Kind == api.Num:
		if x.N > 63 || !strings.HasSuffix(state, "1") && x.N <= r.ahead {
			return false
		}
		r.ahead = x.N
		if state[0] == 'e' {
			t.ECB += 1 << x.N
		} else {
			t.UCB += 1 << x.N
		}
	}
	return true
}

// told is what the chapter asks of a text.
func told(s string) (x api.Set, at int, err api.Errno) {
	l, at, err := lex.Tokens(s)
	if err != api.OK {
		return api.Set{}, at, err
	}
	r, state := reading{}, "begin"
	for _, x := range l {
		next := step(state, x)
		if next == "" {
			return api.Set{}, x.At, api.ErrForm
		}
		if !r.note(state, x) {
			return api.Set{}, x.At, api.ErrLimit
		}
		state = next
	}
	names := map[string]int{}
	for i, x := range r.x.Tasks {
		if names[x.Name]++; names[x.Name] > 1 || !task.Is(x, i) {
			return api.Set{}, r.starts[i], api.ErrArg
		}
	}
	if n := len(r.x.Tasks); n == 0 || n > 8 || r.x.Reload > 10000 {
		return api.Set{}, 0, api.ErrArg
	}
	return r.x, len(s), api.OK
}

// wantTold asks for what the chapter asks of a text, and tells which error that is.
func wantTold(t *testing.T, s string) api.Errno {
	t.Helper()
	x, at, err := told(s)
	if err != api.OK {
		wantAt(t, s, at, err)
	} else {
		wantSet(t, s, x)
	}
	return err
}

// tasksOf is n tasks with names of their own, as a text.
func tasksOf(n int) string {
	s := ""
	for i := range n {
		s += strings.Replace(good, "task a", "task t"+strconv.Itoa(i), 1)
	}
	return s
}

// joined is tokens with a blank between them.
func joined(l ...string) string { return strings.Join(l, " ") }

func TestP6_1Example(t *testing.T) {
	wantSet(t, "reload 0; task a period 5 deadline 5 fixed regions 2 1;",
		api.Set{Tasks: []api.Task{{Name: "a", T: 5, D: 5, Regions: []int64{2, 1}}}})
	wantSet(t, full, fullSet())
	wantTask(t, good, api.Task{Name: "a", T: 20, D: 15, Regions: []int64{1}})
}

func TestP6_1Nothing(t *testing.T) {
	wantErr(t, "^", api.ErrForm)
	wantErr(t, " ^", api.ErrForm)
	wantErr(t, "\n\n^", api.ErrForm)
	wantErr(t, "# reload 0;^", api.ErrForm)
	wantErr(t, "# reload 0;\n ^", api.ErrForm)
}

// A text that ends ahead of its end has its error at the End: at its last byte's end, a note's too.
func TestP6_1EndsEarly(t *testing.T) {
	l := strings.Fields(full)
	for n := range l {
		s := joined(l[:n]...)
		if n > 0 && l[n-1] == ";" {
			continue
		}
		for _, behind := range []string{"", " ", "\n", "  \n ", "# note", " # note\n"} {
			wantErr(t, s+behind+"^", api.ErrForm)
		}
	}
	wantErr(t, "^reload 7;", api.ErrArg)
	wantSet(t, "reload 7; task a period 20 deadline 15 fixed regions 1;", api.Set{Reload: 7, Tasks: fullSet().Tasks[:1]})
}

// A token that fits nowhere stands at each place of the text, and in each token's stead.
func TestP6_1TokenTooMany(t *testing.T) {
	l := strings.Fields(full)
	for n := range len(l) + 1 {
		ahead, behind := joined(l[:n]...)+" ", " "+joined(l[n:]...)
		if n == 0 {
			wantErr(t, "reload ^"+full, api.ErrForm)
		} else {
			wantErr(t, ahead+"^reload"+behind, api.ErrForm)
		}
		if n > 0 && l[n-1] == "task" {
			wantErr(t, ahead+"zz ^"+behind[1:], api.ErrForm)
		} else {
			wantErr(t, ahead+"^zz"+behind, api.ErrForm)
		}
		if n > 0 && n < len(l) {
			wantErr(t, ahead+"^reload "+joined(l[n+1:]...), api.ErrForm)
		}
		for _, x := range append(strings.Fields(language), ";", "zz", "0", "1", "7", "64") {
			wantTold(t, ahead+x+behind)
			if n < len(l) {
				wantTold(t, ahead+x+" "+joined(l[n+1:]...))
			}
		}
	}
}

// Each token is left out, comes twice, and changes places with each other one.
func TestP6_1TokensElsewhere(t *testing.T) {
	l := strings.Fields(full)
	for n := range l {
		wantTold(t, joined(slices.Delete(slices.Clone(l), n, n+1)...))
		wantTold(t, joined(slices.Insert(slices.Clone(l), n, l[n])...))
		for k := range n {
			swapped := slices.Clone(l)
			swapped[n], swapped[k] = l[k], l[n]
			wantTold(t, joined(swapped...))
		}
	}
}

func TestP6_1Head(t *testing.T) {
	for _, marked := range []string{
		"^;", "^0", "^a", "^task", "reload ^;", "reload ^x;", "reload ^reload;", "reload 0^", "reload 0 ^0;", "reload 0 ^" + good,
		"reload 0;^;", "reload 0; ^a", "reload 0; ^5", "reload 0; ^reload 0;", "^" + good, "reload 0; " + good + "^;",
		"reload 0; " + good + " ^reload 0;", "reload 0; " + good + " ^x", "reload 0; " + good + " ^7", "^reload0;", "^reloads 0;",
		"reload 0; ^period 5;", "reload 0; ^fixed;", "reload 0; ^tasks a;",
	} {
		wantErr(t, marked, api.ErrForm)
	}
}

func TestP6_1Task(t *testing.T) {
	for _, marked := range []string{
		"task ^1 period 5 deadline 5 fixed regions 1;",
		"task ^; ", "task ^period 5 deadline 5 fixed regions 1;", "task ^task period 5 deadline 5 fixed regions 1;",
		"task a ^b period 5 deadline 5 fixed regions 1;", "task a ^deadline 5 period 5 fixed regions 1;",
		"task a ^5 deadline 5 fixed regions 1;", "task a period ^deadline 5 fixed regions 1;",
		"task a period 5 ^5 deadline 5 fixed regions 1;", "task a period 5 ^fixed regions 1;",
		"task a period 5 ^period 5 fixed regions 1;", "task a period 5 deadline ^fixed regions 1;",
		"task a period 5 deadline ^a fixed regions 1;", "task a period 5 deadline 5 ^5 fixed regions 1;",
		"task a period 5 deadline 5 ^regions 1;", "task a period 5 deadline 5 ^;", "task a period 5 deadline 5 ^x regions 1;",
		"task a period 5 deadline 5 fixed ^1;", "task a period 5 deadline 5 fixed ^ecb 1;", "task a period 5 deadline 5 fixed ^;",
		"task a period 5 deadline 5 fixed regions 1 ^task b period 5 deadline 5 fixed regions 1;",
		"task a period 5 deadline 5 fixed regions 1 ^x;", "task a period 5 deadline 5 fixed regions 1 ^regions 1;",
		"task a period 5 deadline 5 fixed regions 1 ^fixed;",
	} {
		wantErr(t, head+marked, api.ErrForm)
		wantErr(t, head+tasksOf(3)+marked, api.ErrForm)
	}
	for _, word := range strings.Fields(language) {
		wantErr(t, head+"task ^"+word+" period 5 deadline 5 fixed regions 1;", api.ErrForm)
		wantTask(t, "task "+word+"_ period 5 deadline 5 fixed regions 1;", api.Task{Name: word + "_", T: 5, D: 5, Regions: []int64{1}})
	}
}

func TestP6_1Mode(t *testing.T) {
	const ahead, behind = "task a period 20 deadline 15 ", " regions 1;"
	x := api.Task{Name: "a", T: 20, D: 15, Regions: []int64{1}}
	wantTask(t, ahead+"fixed"+behind, x)
	for _, q := range []int64{0, 1, 9999, 10000} {
		x.Mode, x.Q = api.Float, q
		wantTask(t, ahead+"float "+strconv.FormatInt(q, 10)+behind, x)
	}
	for _, marked := range []string{
		"fixed ^0", "fixed ^1", "float^", "thresh^", "float 1 ^2", "thresh 0 ^0", "float ^x", "thresh ^x", "^x", "^0", "^float0", "^fixe",
		"fixed ^fixed", "fixed ^float 1", "float 1 ^fixed", "float ^float 1", "float 1 ^thresh 1", "thresh ^fixed", "float ^;", "thresh ^;",
	} {
		text := head + ahead + marked + behind
		if strings.HasSuffix(marked, "^") {
			text = head + ahead + strings.TrimSuffix(marked, "^") + " ^regions 1;"
		}
		wantErr(t, text, api.ErrForm)
	}
	wantErr(t, head+"^"+ahead+"float 10001"+behind, api.ErrArg)
	for at := range api.MaxTasks {
		for theta := range api.MaxTasks + 1 {
			last := "task a period 20 deadline 15 thresh " + strconv.Itoa(theta) + " regions 1;"
			if theta > at {
				wantErr(t, head+tasksOf(at)+"^"+last, api.ErrArg)
				continue
			}
			got, _, err := Parse(head + tasksOf(at) + last)
			x.Mode, x.Q, x.Theta = api.Thresh, 0, theta
			if err != api.OK || len(got.Tasks) != at+1 || !reflect.DeepEqual(got.Tasks[at], x) {
				t.Errorf("thresh %d at %d: %+v, %d", theta, at, got, err)
			}
		}
	}
}

func TestP6_1Regions(t *testing.T) {
	const ahead = "task a period 10000 deadline 10000 fixed regions"
	text, x := ahead, api.Task{Name: "a", T: 10000, D: 10000}
	for n := int64(1); n <= api.MaxRegions; n++ {
		text += " " + strconv.FormatInt(100*n, 10)
		x.Regions = append(x.Regions, 100*n)
		wantTask(t, text+";", x)
		x.ECB = 2
		wantTask(t, text+" ecb 1;", x)
		x.ECB = 0
	}
	wantErr(t, head+"^"+text+" 1;", api.ErrArg)
	wantErr(t, head+"^"+ahead+strings.Repeat(" 1", 1000)+";", api.ErrArg)
	wantErr(t, head+text+" 1 ^x;", api.ErrForm)
	wantErr(t, head+"^"+ahead+" 0;", api.ErrArg)
	wantErr(t, head+"^"+ahead+" 1 0 1;", api.ErrArg)
	wantErr(t, head+"^"+ahead+" 9999 2;", api.ErrArg)
	wantTask(t, ahead+" 9999 1;", api.Task{Name: "a", T: 10000, D: 10000, Regions: []int64{9999, 1}})
	for _, behind := range []string{"^;", "^ecb 1;", "^ucb 1;", "^x;", "^regions 1;"} {
		wantErr(t, head+ahead+" "+behind, api.ErrForm)
	}
}

// setsTask is the good task with cache sets.
func setsTask(ecb, ucb uint64) api.Task {
	return api.Task{Name: "a", T: 20, D: 15, Regions: []int64{1}, ECB: ecb, UCB: ucb}
}

func TestP6_1WhichRows(t *testing.T) {
	const ahead = "task a period 20 deadline 15 fixed regions 1"
	wantTask(t, ahead+";", setsTask(0, 0))
	wantTask(t, ahead+" ecb 4;", setsTask(16, 0))
	wantTask(t, ahead+" ecb 4 ucb 4;", setsTask(16, 16))
	wantTask(t, ahead+" ecb 1 2 3 ucb 2;", setsTask(14, 4))
	wantTask(t, ahead+" ecb 1 2 3 ucb 1 2 3;", setsTask(14, 14))
	wantErr(t, head+"^"+ahead+" ucb 4;", api.ErrArg) // it fits the grammar, but is not within the ecb
	wantErr(t, head+"^"+ahead+" ecb 4 ucb 5;", api.ErrArg)
	wantErr(t, head+"^"+ahead+" ecb 4 ucb 4 5;", api.ErrArg)
	for _, behind := range []string{
		" ucb 4 ^ecb 4;", " ecb ^;", " ucb ^;", " ecb ^ucb 1;", " ecb 1 ^ecb 2;", " ecb 1 ucb ^;", " ecb 1 ucb 1 ^ucb 2;",
		" ecb 1 ucb 1 ^ecb 2;", " ecb ^x;", " ecb 1 ^x;", " ucb ^x;", " ecb 1 ucb 1 ^x;", " ecb 1 ^regions 2;", " ecb 1 ucb 1 ^task",
		" ecb ^ecb 1;", " ecb 1 ucb ^ucb 1;",
	} {
		wantErr(t, head+ahead+behind, api.ErrForm)
	}
}

func TestP6_1CacheSets(t *testing.T) {
	const ahead = "task a period 20 deadline 15 fixed regions 1"
	all := ""
	for i := range api.Sets {
		n := " " + strconv.Itoa(i)
		all += n
		wantTask(t, ahead+" ecb"+n+";", setsTask(1<<i, 0))
		wantTask(t, ahead+" ecb"+n+" ucb"+n+";", setsTask(1<<i, 1<<i))
		for k := range api.Sets {
			row := n + " " + strconv.Itoa(k)
			if k > i {
				wantTask(t, ahead+" ecb"+row+";", setsTask(1<<i|1<<k, 0))
				wantTask(t, ahead+" ecb"+row+" ucb"+row+";", setsTask(1<<i|1<<k, 1<<i|1<<k))
				continue
			}
			marked := n + " ^" + strconv.Itoa(k)
			wantErr(t, head+ahead+" ecb"+marked+";", api.ErrLimit)
			wantErr(t, head+ahead+" ecb 0 ucb"+marked+";", api.ErrLimit)
			wantErr(t, head+ahead+" ucb"+marked+";", api.ErrLimit)
		}
	}
	wantTask(t, ahead+" ecb"+all+" ucb"+all+";", setsTask(1<<64-1, 1<<64-1))
	for _, row := range []string{
		"^64", "^65", "^128", "^999999999", "0 ^64", "63 ^64", "63 ^999999999", "0 ^0", "5 ^5", "63 ^63", "5 ^4", "63 ^0", "1 2 3 ^3", "1 2 3 ^1",
		"1 3 ^2", "0 1 62 ^0", "5 7 ^6 8", "^64 1", "5 ^5 64", "5 ^64 5", "1 ^0 2", all[1:] + " ^64", all[1:] + " ^63", "^256", "^320",
	} {
		wantErr(t, head+ahead+" ecb "+row+";", api.ErrLimit)
		wantErr(t, head+ahead+" ucb "+row+";", api.ErrLimit)
		wantErr(t, head+ahead+" ecb"+all+" ucb "+row+";", api.ErrLimit)
		wantErr(t, head+tasksOf(2)+ahead+" ecb "+row+";"+good, api.ErrLimit)
	}
	// Each row has its own beginning: that of a ucb, and that of the next task.
	wantTask(t, ahead+" ecb 0 63 ucb 0;", setsTask(1|1<<63, 1))
	wantTold(t, head+ahead+" ecb 63 ucb 63; task b period 5 deadline 5 fixed regions 1 ecb 0 1;")
}

// The lexer's error is told, whatever stands ahead of it.
func TestP6_1LexerFirst(t *testing.T) {
	long := strings.Repeat("a", api.MaxName+1)
	for _, fault := range []string{"^?", "^A", "^_", "^01", "^1234567890", "^" + long, "^\xff", "^\x00", "^-1", "^\t"} {
		for _, s := range []string{
			"", "reload ", "x ", "reload reload ", "; ", head, head + good, head + "task 1 ", head + "x ",
			"reload 10001; ", head + good + good, head + "task a period 5 deadline 5 fixed regions 1 ecb 64 ",
			head + "task a period 5 deadline 5 fixed regions 1 ecb 5 5; ", head + "task a period 5 deadline 9 fixed regions 1; ",
		} {
			wantErr(t, s+fault, api.ErrForm)
			wantErr(t, s+fault+" x", api.ErrForm)
			wantErr(t, s+fault+" ? 01", api.ErrForm)
			wantErr(t, s+fault+" "+head+good, api.ErrForm)
		}
	}
	wantErr(t, "^x", api.ErrForm)
	wantErr(t, "x ^?", api.ErrForm)
	wantErr(t, "^? x", api.ErrForm)
	wantErr(t, head+"task ^"+long+" period", api.ErrForm)
}

// Of ErrForm and ErrLimit the one that comes first in the text is told, and both ahead of ErrArg.
func TestP6_1FirstInText(t *testing.T) {
	const ahead = "task a period 20 deadline 15 fixed regions 1"
	for _, marked := range []string{
		" ecb ^64 x", " ecb ^64", " ecb 5 ^5 ecb", " ecb 5 ^4; x", " ecb ^64 ucb x;", " ecb ^64 64 x", " ucb ^64 ecb 1;", " ucb 1 ^1 ecb 1;",
		"; task b period 5 deadline 5 fixed regions 1 ecb ^70; task 1", " ecb ^64; " + good, " ecb 1 ucb ^64",
	} {
		wantErr(t, head+ahead+marked, api.ErrLimit)
		wantErr(t, "reload 10001; "+good+good+ahead+marked, api.ErrLimit)
		wantErr(t, head+"task z period 5 deadline 6 fixed regions 7; "+ahead+marked, api.ErrLimit)
	}
	for _, marked := range []string{
		" ^x ecb 64;", " ecb ^x 64;", " ucb 1 ^ecb 64;", " ecb ^ucb 64;", " ecb 1 ^x 64;", "; ^x ecb 64;", "; task ^1 ecb 64;", " ecb 1^",
	} {
		wantErr(t, head+ahead+marked, api.ErrForm)
		wantErr(t, "reload 10001; "+good+good+ahead+marked, api.ErrForm)
		wantErr(t, head+"task z period 5 deadline 6 fixed regions 7; "+ahead+marked, api.ErrForm)
	}
}

// ErrArg is at the first task that is wrong, whichever way it is.
func TestP6_1FirstWrongTask(t *testing.T) {
	const (
		b     = "task b period 5 deadline 5 fixed regions 1;"
		wrong = "task w period 5 deadline 6 fixed regions 1;"
		both  = "task a period 5 deadline 6 fixed regions 1;"
	)
	for _, marked := range []string{
		"^" + wrong, "^" + both, "^" + both + good, good + "^" + good, good + "^" + both, good + "^" + wrong, good + b + "^" + good,
		good + b + "^" + b, good + b + "^" + wrong + good, good + b + "^" + good + wrong, good + "^" + wrong + wrong, "^" + wrong + wrong,
		"^" + wrong + good + good, good + "^" + good + wrong, good + "^" + both + wrong, good + b + "^" + both + wrong + good,
		good + "^" + good + good, "\n# a note\n^" + wrong, good + "\n\n ^" + good, tasksOf(7) + "^" + wrong, tasksOf(8) + "^" + wrong,
		tasksOf(8) + good + "^" + good, tasksOf(20) + "^" + wrong, tasksOf(8) + "^" + tasksOf(1), tasksOf(20) + "^" + tasksOf(1),
		"^" + wrong + tasksOf(20), tasksOf(8) + "^task a period 5 deadline 5 thresh 9 regions 1;",
	} {
		for _, reload := range []string{"0", "10000", "10001", "999999999"} {
			wantErr(t, "reload "+reload+"; "+marked, api.ErrArg)
			wantErr(t, "\n reload "+reload+";"+marked+" ", api.ErrArg)
		}
	}
	// A name is another one by each of its bytes.
	for _, names := range [][2]string{{"a", "aa"}, {"a", "a_"}, {"ab", "ba"}, {"a1", "a2"}, {"abcdefghijkl", "abcdefghijkm"}, {"abcdefghijk", "abcdefghijkl"}} {
		text := head + strings.Replace(good, "task a", "task "+names[0], 1) + "^" + strings.Replace(good, "task a", "task "+names[1], 1)
		if err := wantTold(t, strings.Replace(text, "^", "", 1)); err != api.OK {
			t.Errorf("names %v: %d", names, err)
		}
		wantErr(t, strings.Replace(text, names[1]+" ", names[0]+" ", 1), api.ErrArg)
	}
}

// What each field of a task may be, is asked by chapter 5: one of each kind.
func TestP6_1TaskThatIsNot(t *testing.T) {
	for _, text := range []string{
		"task a period 10001 deadline 5 fixed regions 1;", "task a period 5 deadline 6 fixed regions 1;", "task a period 5 deadline 2 fixed regions 3;",
		"task a period 0 deadline 0 fixed regions 0;", "task a period 5 deadline 5 fixed regions 0;", "task a period 5 deadline 5 float 10001 regions 1;",
		"task a period 5 deadline 5 thresh 1 regions 1;", "task a period 5 deadline 5 fixed regions 1 ecb 1 ucb 2;",
		"task a period 5 deadline 5 fixed regions 1 ucb 0;", "task a period 10000 deadline 10000 fixed regions 1 1 1 1 1 1 1 1 1;",
		"task a period 999999999 deadline 5 fixed regions 1;", "task a period 5 deadline 999999999 fixed regions 1;",
		"task a period 5 deadline 5 fixed regions 999999999;", "task a period 5 deadline 5 float 999999999 regions 1;",
		"task a period 5 deadline 5 thresh 999999999 regions 1;", "task a period 999999999 deadline 999999999 fixed regions 999999999;",
		// These would be small ones, and fit, if they went round at 8 or 16 digits of 2.
		"task a period 65541 deadline 5 fixed regions 1;", "task a period 5 deadline 65541 fixed regions 1;",
		"task a period 5 deadline 5 fixed regions 65537;", "task a period 5 deadline 5 fixed regions 257;",
		"task a period 5 deadline 5 float 65537 regions 1;", "task a period 5 deadline 5 thresh 256 regions 1;",
		"task a period 5 deadline 5 thresh 65536 regions 1;",
		"task a period 999999999 deadline 999999999 fixed regions" + strings.Repeat(" 999999999", 300) + ";",
	} {
		wantErr(t, head+"^"+text, api.ErrArg)
		wantErr(t, "reload 999999999;\n^"+text, api.ErrArg)
	}
}

func TestP6_1Set(t *testing.T) {
	wantErr(t, "^reload 0;", api.ErrArg)
	wantErr(t, "^ reload 0; # none\n", api.ErrArg)
	wantErr(t, "^\n\nreload 10001;", api.ErrArg)
	for n := range 2*api.MaxTasks + 1 {
		for _, gap := range []string{"", " ", "\n"} {
			s := gap + "reload 5;" + gap + tasksOf(n)
			if n < 1 || n > api.MaxTasks {
				wantErr(t, "^"+s, api.ErrArg)
				continue
			}
			x := api.Set{Reload: 5}
			for i := range n {
				x.Tasks = append(x.Tasks, api.Task{Name: "t" + strconv.Itoa(i), T: 20, D: 15, Regions: []int64{1}})
			}
			wantSet(t, s, x)
		}
	}
	for _, reload := range []int64{0, 1, 9999, 10000} {
		wantSet(t, "reload "+strconv.FormatInt(reload, 10)+"; "+good, api.Set{Reload: reload, Tasks: []api.Task{setsTask(0, 0)}})
	}
	for _, reload := range []string{"10001", "65536", "100000000", "999999999"} {
		wantErr(t, "^reload "+reload+"; "+good, api.ErrArg)
		wantErr(t, "^\n# note\n reload "+reload+"; "+tasksOf(8), api.ErrArg)
		wantErr(t, "^reload "+reload+"; "+tasksOf(9), api.ErrArg)
	}
	wantErr(t, "reload ^1000000000; "+good, api.ErrForm)
	wantErr(t, "reload ^00; "+good, api.ErrForm)
}

// Each field at its greatest.
func TestP6_1Greatest(t *testing.T) {
	wantTask(t, "task abcdefghijkl period 10000 deadline 10000 float 10000 regions 10000;",
		api.Task{Name: "abcdefghijkl", T: 10000, D: 10000, Mode: api.Float, Q: 10000, Regions: []int64{10000}})
	wantTask(t, "task z_9 period 1 deadline 1 thresh 0 regions 1 ecb 63 ucb 63;",
		api.Task{Name: "z_9", T: 1, D: 1, Mode: api.Thresh, Regions: []int64{1}, ECB: 1 << 63, UCB: 1 << 63})
}

// Notes and gaps between all tokens change nothing but the places.
func TestP6_1Gaps(t *testing.T) {
	l := strings.Fields(full)
	for _, gap := range []string{" ", "\n", "  ", " \n ", "#\n", " # task 01 ?\n", "# a\n# \xff;\n\n"} {
		s := gap + strings.Join(l, gap) + gap
		wantSet(t, s, fullSet())
		for n := range l {
			bad := slices.Clone(l)
			bad[n] = "reload"
			if n == 0 {
				bad[n] = "task"
			}
			at := len(gap) + len(strings.Join(l[:n], gap)) + min(n, 1)*len(gap)
			wantAt(t, gap+strings.Join(bad, gap)+gap, at, api.ErrForm)
		}
	}
	wantSet(t, strings.NewReplacer(" ;", ";", "; ", ";").Replace(full), fullSet())
	wantSet(t, full+"# the end", fullSet())
	// A number ends where its digits end: no gap is needed behind it.
	wantSet(t, "reload 7;task a period 20deadline 15fixed regions 1;", api.Set{Reload: 7, Tasks: fullSet().Tasks[:1]})
	wantErr(t, "^reload7;task a", api.ErrForm)
	wantErr(t, "reload 7; task#a\n ^", api.ErrForm)
}

func TestP6_1Length(t *testing.T) {
	blanks := strings.Repeat(" ", api.MaxText)
	room := blanks[len(full):]
	for _, s := range []string{room + full, full + room, full + "#" + strings.Repeat("?", len(room)-1), "#" + room[2:] + "\n" + full} {
		wantSet(t, s, fullSet())
		wantSet(t, strings.Replace(s, "7 ;", "7;", 1), fullSet())
		for _, more := range []string{" ", "\n", ";", "?", "x"} {
			wantErr(t, "^"+s+more, api.ErrLimit)
			wantErr(t, "^"+more+s, api.ErrLimit)
		}
	}
	wantErr(t, blanks+"^", api.ErrForm)
	wantErr(t, "^"+blanks+" ", api.ErrLimit)
	wantErr(t, room[1:]+full+"^;", api.ErrForm)
	wantErr(t, "^"+room+full+";", api.ErrLimit)
	// The limit is told ahead of all else, and texts of any length end.
	for _, part := range []string{"reload ", "x", "?", "\x00", "\xff", "é", ";", "#", "0", "1", "\n", good, head, head + good, "ecb 64 "} {
		n := api.MaxText/len(part) + 1
		wantErr(t, "^"+strings.Repeat(part, n), api.ErrLimit)
		wantErr(t, "^"+strings.Repeat(part, 100*n), api.ErrLimit)
		wantTold(t, strings.Repeat(part, api.MaxText/len(part)))
		wantTold(t, (head + strings.Repeat(part, api.MaxText))[:api.MaxText])
	}
	const ahead = "task a period 5 deadline 5 fixed regions 1"
	wantTold(t, head+ahead+strings.Repeat(" 1", 1900)+";")
	wantTold(t, head+ahead+" ecb"+strings.Repeat(" 1", 1900)+";")
}

// Texts of any bytes.
func TestP6_1Bytes(t *testing.T) {
	for a := range 256 {
		wantTold(t, string([]byte{byte(a)}))
		for b := range 256 {
			wantTold(t, string([]byte{byte(a), byte(b)}))
		}
	}
	source := rand.New(rand.NewSource(61))
	for range 20000 {
		b := []byte(full)
		for range 1 + source.Intn(3) {
			b[source.Intn(len(b))] = byte(source.Intn(256))
		}
		wantTold(t, string(b[:1+source.Intn(len(b))]))
		wantTold(t, string(b))
	}
}

// pick is one of several, by chance.
func pick(r *rand.Rand, l ...string) string { return l[r.Intn(len(l))] }

// anyRow is a row of cache sets that seldom is none.
func anyRow(r *rand.Rand) string {
	s, at := "", r.Intn(4)
	for range 1 + r.Intn(5) {
		s += " " + strconv.Itoa(at)
		at += 1 + r.Intn(5)
		switch r.Intn(60) {
		case 0:
			at -= 1 + r.Intn(1+at)
		case 1:
			at = 62 + r.Intn(4)
		}
	}
	return s
}

// anyTask is a task that seldom may not be.
func anyTask(r *rand.Rand) string {
	s := "task " + pick(r, "a", "b", "c", "d", "e", "f", "g", "h", "i", "j", "k", "l", "m", "n", "o", "p", "task_", "abcdefghijkl")
	s += " period " + pick(r, "90", "91", "99", "10000", "90", "90", "10001")
	s += " deadline " + pick(r, "90", "89", "80", "90", "80", "70", "91")
	s += " " + pick(r, "fixed", "fixed", "float 0", "float 9", "float 10000", "thresh 0", "thresh 0", "thresh 1") + " regions"
	for range 1 + r.Intn(8) {
		s += " " + pick(r, "1", "2", "3", "4", "10")
	}
	switch row := anyRow(r); r.Intn(4) {
	case 0:
		s += " ecb" + row
	case 1:
		s += " ecb" + row + " ucb" + row
	case 2:
		s += " ecb" + row + " ucb" + strings.Join(strings.SplitAfterN(row, " ", 3)[:2], "")
	}
	return s + " ;"
}

// anyText is a text in which seldom a token is another one, is left out, or stands too much.
func anyText(r *rand.Rand) string {
	s := "reload " + pick(r, "0", "1", "2", "3", "10000", "10000", "10001") + " ;"
	for range r.Intn(4) + r.Intn(4) {
		s += " " + anyTask(r)
	}
	l := strings.Fields(s)
	if r.Intn(3) == 0 {
		at := r.Intn(len(l))
		other := pick(r, append(strings.Fields(language), ";", "x", "0", "5", "64", "?")...)
		switch r.Intn(4) {
		case 0:
			l[at] = other
		case 1:
			l = slices.Delete(l, at, at+1)
		case 2:
			l = slices.Insert(l, at, other)
		case 3:
			l = l[:at]
		}
	}
	return strings.Join(l, pick(r, " ", " ", "\n", "  ", " # x\n"))
}

func TestP6_1ByChance(t *testing.T) {
	r := rand.New(rand.NewSource(6))
	seen := map[api.Errno]int{}
	for range 40000 {
		seen[wantTold(t, anyText(r))]++
	}
	for _, err := range []api.Errno{api.OK, api.ErrArg, api.ErrForm, api.ErrLimit} {
		if seen[err] < 2000 {
			t.Errorf("hardly any of one kind: %v", seen)
		}
	}
}

// writeOver writes over all of a set, its lists' spare room too.
func writeOver(x *api.Set) {
	tasks := x.Tasks[:cap(x.Tasks)]
	for i := range tasks {
		regions := tasks[i].Regions[:cap(tasks[i].Regions)]
		for k := range regions {
			regions[k] = -1
		}
		tasks[i] = api.Task{Name: "other", Mode: -1, Regions: []int64{-2}}
	}
	*x = api.Set{Reload: -1}
}

func TestP6_2WrittenOver(t *testing.T) {
	r := rand.New(rand.NewSource(62))
	texts := []string{full, head + good, head + tasksOf(8)}
	for range 3000 {
		texts = append(texts, anyText(r))
	}
	for _, s := range texts {
		first, _, _ := Parse(s)
		second, _, _ := Parse(s)
		writeOver(&first)
		third, _, _ := Parse(s)
		want, _, _ := told(s)
		if !task.Same(second, want) || !task.Same(third, want) {
			t.Fatalf("Parse(%q): another answer has changed: %+v, %+v", s, second, third)
		}
	}
}

// No two lists of one answer share memory, not in their spare room either.
func TestP6_2ListsApart(t *testing.T) {
	for _, s := range []string{full, head + tasksOf(8), strings.ReplaceAll(head+tasksOf(8), "regions 1", "regions 1 2 3 4 5")} {
		x, _, err := Parse(s)
		if err != api.OK {
			t.Fatalf("Parse(%q): %d", s, err)
		}
		want, _, _ := told(s)
		for i := range x.Tasks {
			regions := x.Tasks[i].Regions
			for k := range regions[:cap(regions)] {
				regions[:cap(regions)][k] = -1
			}
			x.Tasks[i].Regions = want.Tasks[i].Regions
			if !task.Same(x, want) {
				t.Fatalf("Parse(%q): task %d's regions are another's too: %+v", s, i, x)
			}
		}
	}
}

// A name is no piece of the text that is handed in.
func TestP6_2NoPiece(t *testing.T) {
	bytes := []byte(full)
	x, _, err := Parse(unsafe.String(unsafe.SliceData(bytes), len(bytes)))
	if string(bytes) != full {
		t.Errorf("the text has changed: %q", bytes)
	}
	clear(bytes)
	if err != api.OK || !reflect.DeepEqual(x, fullSet()) {
		t.Errorf("the set has changed with the text: %+v, %d", x, err)
	}
}

// An answer hangs on nothing that was asked ahead of it.
func TestP6_2AskedAgain(t *testing.T) {
	texts := []string{full, "", "?", "reload 0;", head + good + good, head + "task a period 5 deadline 5 fixed regions 1 ecb 64;", head + good}
	for range 3 {
		for _, s := range texts {
			for _, other := range texts {
				wantTold(t, s)
				wantTold(t, other)
			}
		}
	}
}
