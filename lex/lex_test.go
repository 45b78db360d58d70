package lex

import (
	"math/rand"
	"regexp"
	"slices"
	"strconv"
	"strings"
	"testing"
	"unsafe"

	"taskmaster/api"
)

const language = "reload task period deadline fixed float thresh regions ecb ucb"

func name(s string, at int) api.Token { return api.Token{Kind: api.Name, Text: s, At: at} }
func word(s string, at int) api.Token { return api.Token{Kind: api.Word, Text: s, At: at} }
func num(n int64, at int) api.Token   { return api.Token{Kind: api.Num, N: n, At: at} }
func end(at int) api.Token            { return api.Token{Kind: api.End, At: at} }

// wantTokens asks for just these tokens, and End behind them.
func wantTokens(t *testing.T, s string, want ...api.Token) {
	t.Helper()
	l, at, err := Tokens(s)
	if err != api.OK || at != len(s) || !slices.Equal(l, append(want, end(len(s)))) {
		t.Errorf("Tokens(%q) = %v, %d, %d", s, l, at, err)
	}
}

// wantErr asks for an error at a place, and for no tokens beside it.
func wantErr(t *testing.T, s string, at int, err api.Errno) {
	t.Helper()
	l, gotAt, gotErr := Tokens(s)
	if l != nil || gotAt != at || gotErr != err {
		t.Errorf("Tokens(%q) = %v, %d, %d, want nil, %d, %d", s, l, gotAt, gotErr, at, err)
	}
}

// What the chapter tells of, as patterns: the tests hold the code against them.
var (
	between = regexp.MustCompile(`^([ \n]|#[^\n]*)*`)
	names   = regexp.MustCompile(`^[a-z][a-z0-9_]*`)
	digits  = regexp.MustCompile(`^[0-9]+`)
	good    = regexp.MustCompile(`^(0|[1-9][0-9]{0,8})$`)
)

// told is what the chapter asks of a text.
func told(s string) (l []api.Token, at int, err api.Errno) {
	if len(s) > api.MaxText {
		return nil, 0, api.ErrLimit
	}
	rest := s
	for {
		rest = rest[len(between.FindString(rest)):]
		at := len(s) - len(rest)
		x, n := names.FindString(rest), digits.FindString(rest)
		switch {
		case rest == "":
			return append(l, end(at)), at, api.OK
		case x != "" && len(x) <= api.MaxName:
			token := name(x, at)
			if slices.Contains(strings.Fields(language), x) {
				token = word(x, at)
			}
			l, rest = append(l, token), rest[len(x):]
		case good.MatchString(n):
			v, _ := strconv.ParseInt(n, 10, 64)
			l, rest = append(l, num(v, at)), rest[len(n):]
		case rest[0] == ';':
			l, rest = append(l, word(";", at)), rest[1:]
		default:
			return nil, at, api.ErrForm
		}
	}
}

// wantTold asks for what the chapter asks of a text.
func wantTold(t *testing.T, s string) {
	t.Helper()
	l, at, err := told(s)
	if err != api.OK {
		wantErr(t, s, at, err)
		return
	}
	wantTokens(t, s, l[:len(l)-1]...)
}

func TestP4_1Words(t *testing.T) {
	if got := strings.Join(Words(), " "); got != language {
		t.Errorf("Words() = %q", got)
	}
	for _, w := range strings.Fields(language) {
		wantTokens(t, w, word(w, 0))
		wantTokens(t, " "+w+";", word(w, 1), word(";", len(w)+1))
		wantTokens(t, w+"1", name(w+"1", 0))
		wantTokens(t, w+"_", name(w+"_", 0))
		wantTokens(t, w[:len(w)-1], name(w[:len(w)-1], 0))
		wantTokens(t, w[1:], name(w[1:], 0))
		for c := 'a'; c <= 'z'; c++ {
			wantTokens(t, w+string(c), name(w+string(c), 0))
			wantTokens(t, string(c)+w, name(string(c)+w, 0))
		}
		wantErr(t, strings.ToUpper(w), 0, api.ErrForm)
	}
}

func TestP4_1Tokens(t *testing.T) {
	wantTokens(t, "")
	wantTokens(t, " ")
	wantTokens(t, "\n")
	wantTokens(t, " \n\n  \n")
	wantTokens(t, "task a;", word("task", 0), name("a", 5), word(";", 6))
	wantTokens(t, ";", word(";", 0))
	wantTokens(t, ";;\n;", word(";", 0), word(";", 1), word(";", 3))
	wantTokens(t, "a\nb  c", name("a", 0), name("b", 2), name("c", 5))
	wantTokens(t, "taska task_a", name("taska", 0), name("task_a", 6))
	wantTokens(t, "task;task", word("task", 0), word(";", 4), word("task", 5))
	wantTokens(t, "reload 5;\ntask t1 period 20 deadline 15 float 3 regions 2 1 ecb 0 63 ucb 0;",
		word("reload", 0), num(5, 7), word(";", 8), word("task", 10), name("t1", 15), word("period", 18), num(20, 25),
		word("deadline", 28), num(15, 37), word("float", 40), num(3, 46), word("regions", 48), num(2, 56), num(1, 58),
		word("ecb", 60), num(0, 64), num(63, 66), word("ucb", 69), num(0, 73), word(";", 74))
}

// The letters a to z begin a name; they, the digits and `_` go on with it.
func TestP4_1Names(t *testing.T) {
	for c := byte('a'); c <= 'z'; c++ {
		s := string([]byte{c})
		wantTokens(t, s, name(s, 0))
		wantTokens(t, "x"+s, name("x"+s, 0))
		wantTokens(t, s+"_"+s+"9", name(s+"_"+s+"9", 0))
	}
	for c := byte('0'); c <= '9'; c++ {
		s := "b" + string([]byte{c})
		wantTokens(t, s, name(s, 0))
	}
	wantTokens(t, "a__ b_", name("a__", 0), name("b_", 4))
	long := strings.Repeat("z", api.MaxName)
	wantTokens(t, long, name(long, 0))
	wantTokens(t, "\n"+long+" "+long+";", name(long, 1), name(long, len(long)+2), word(";", 2*len(long)+2))
	wantTokens(t, "a_0123456789", name("a_0123456789", 0))
}

func TestP4_1Numbers(t *testing.T) {
	for n := range int64(10) {
		wantTokens(t, strconv.FormatInt(n, 10), num(n, 0))
		wantTokens(t, "a "+strconv.FormatInt(10+n, 10)+";", name("a", 0), num(10+n, 2), word(";", 4))
	}
	for _, n := range []int64{100, 101, 9999, 10000, 10001, 123456789, 987654321, 100000000, 999999999} {
		s := strconv.FormatInt(n, 10)
		wantTokens(t, s, num(n, 0))
		wantTokens(t, s+" "+s, num(n, 0), num(n, len(s)+1))
	}
	// A number ends where its digits end.
	wantTokens(t, "1a", num(1, 0), name("a", 1))
	wantTokens(t, "0a0", num(0, 0), name("a0", 1))
	wantTokens(t, "7task;", num(7, 0), word("task", 1), word(";", 5))
	wantTokens(t, "0;0 0\n0#0", num(0, 0), word(";", 1), num(0, 2), num(0, 4), num(0, 6))
	wantTokens(t, "999999999a", num(999999999, 0), name("a", 9))
}

func TestP4_1Notes(t *testing.T) {
	wantTokens(t, "#")
	wantTokens(t, "#\n")
	wantTokens(t, "##")
	wantTokens(t, "# a 01 ? ;")
	wantTokens(t, "# a\n# b\n# c")
	wantTokens(t, "a#b c\nd # e", name("a", 0), name("d", 6))
	wantTokens(t, "a #\n;", name("a", 0), word(";", 4))
	wantTokens(t, "a;#", name("a", 0), word(";", 1))
	wantTokens(t, "a;#\n", name("a", 0), word(";", 1))
	wantTokens(t, "1#2\n3", num(1, 0), num(3, 4))
	wantTokens(t, "task#task\ntask", word("task", 0), word("task", 10))
	wantTokens(t, "#a#b\nc", name("c", 5))
	wantTokens(t, "# 01 "+strings.Repeat("a", 99)+"\nb", name("b", 105))
	for c := range 256 {
		b := string([]byte{byte(c)})
		if b != "\n" {
			wantTokens(t, "#"+b+"a\nb", name("b", 4))
			wantTokens(t, "x#"+b, name("x", 0))
		}
	}
}

func TestP4_1Limit(t *testing.T) {
	full := []string{
		strings.Repeat(" ", api.MaxText), strings.Repeat("\n", api.MaxText), strings.Repeat("#", api.MaxText),
		strings.Repeat(";", api.MaxText), strings.Repeat("a ", api.MaxText/2), strings.Repeat("7\n", api.MaxText/2),
		strings.Repeat("#\xff", api.MaxText/2), strings.Repeat("task ", api.MaxText/5),
	}
	for _, s := range full {
		wantTold(t, s)
		if _, at, err := Tokens(s); at != api.MaxText || err != api.OK {
			t.Errorf("MaxText bytes of %q: %d, %d", s[:2], at, err)
		}
		for _, more := range []string{" ", "\n", "a", "?", "#", ";"} {
			wantErr(t, s+more, 0, api.ErrLimit)
			wantErr(t, more+s, 0, api.ErrLimit)
		}
	}
	// The limit is asked first, whatever else is wrong; it is one of bytes.
	wantErr(t, strings.Repeat("?", api.MaxText), 0, api.ErrForm)
	wantErr(t, strings.Repeat("?", api.MaxText+1), 0, api.ErrLimit)
	wantErr(t, "#"+strings.Repeat("é", api.MaxText/2), 0, api.ErrLimit)
	wantErr(t, " "+strings.Repeat("a", api.MaxText), 0, api.ErrLimit)
	wantErr(t, strings.Repeat(" ", 10*api.MaxText), 0, api.ErrLimit)
	wantErr(t, strings.Repeat("\x00", 1<<20), 0, api.ErrLimit)
	wantErr(t, strings.Repeat(" ", api.MaxText-1)+"?", api.MaxText-1, api.ErrForm)
	wantErr(t, strings.Repeat("a", api.MaxText), 0, api.ErrForm)
	wantErr(t, strings.Repeat("1", api.MaxText), 0, api.ErrForm)
}

// Each byte that is no letter a to z, digit, `;`, `#`, blank or line feed begins no token.
func TestP4_2Bytes(t *testing.T) {
	for c := range 256 {
		b := string([]byte{byte(c)})
		if strings.Contains("abcdefghijklmnopqrstuvwxyz0123456789;# \n", b) {
			continue
		}
		wantErr(t, b, 0, api.ErrForm)
		wantErr(t, b+" task a;", 0, api.ErrForm)
		wantErr(t, "task a; "+b, 8, api.ErrForm)
		wantErr(t, "a;"+b, 2, api.ErrForm)
		wantErr(t, "# "+b+"\n"+b, 4, api.ErrForm)
		wantErr(t, "12"+b+"3", 2, api.ErrForm)
		if b != "_" {
			wantErr(t, "task"+b, 4, api.ErrForm)
		}
	}
	wantErr(t, "é", 0, api.ErrForm)
	wantErr(t, "aé", 1, api.ErrForm)
	wantErr(t, "taskK", 4, api.ErrForm)
	wantErr(t, "1-2", 1, api.ErrForm)
	wantErr(t, "1_000", 1, api.ErrForm)
	wantErr(t, "a\r\nb", 1, api.ErrForm)
}

func TestP4_2Names(t *testing.T) {
	long := strings.Repeat("a", api.MaxName+1)
	wantErr(t, long, 0, api.ErrForm)
	wantErr(t, long+"a", 0, api.ErrForm)
	wantErr(t, long+";", 0, api.ErrForm)
	wantErr(t, "task "+long+" ?", 5, api.ErrForm)
	wantErr(t, ";"+long+"?", 1, api.ErrForm)
	wantErr(t, "b_0123456789_", 0, api.ErrForm)
	wantErr(t, "deadlinetaska", 0, api.ErrForm)
	wantErr(t, "7"+long, 1, api.ErrForm)
	wantTokens(t, "#"+long)
}

func TestP4_2Numbers(t *testing.T) {
	for _, s := range []string{"00", "01", "000", "09", "0123", "00000000", "000000000", "012345678", "0000000000",
		"1000000000", "1234567890", "9999999999", "18446744073709551616", strings.Repeat("9", 99)} {
		wantErr(t, s, 0, api.ErrForm)
		wantErr(t, s+"a", 0, api.ErrForm)
		wantErr(t, "a "+s+";", 2, api.ErrForm)
		wantErr(t, "a;\n"+s+" ?", 3, api.ErrForm)
		wantTokens(t, "a"+s[:2]+" #"+s, name("a"+s[:2], 0))
	}
}

// Of several faults the first is told, whatever they are.
func TestP4_2First(t *testing.T) {
	faults := []string{"?", "_", "\xff", "01", "1234567890", strings.Repeat("a", api.MaxName+1)}
	for _, x := range faults {
		for _, y := range faults {
			wantErr(t, "a "+x+" "+y, 2, api.ErrForm)
			wantErr(t, "#"+x+"\n5;"+y+" "+x, len(x)+4, api.ErrForm)
		}
	}
}

// All texts of up to two bytes, and many longer ones, are held against the patterns.
func TestP4_1P4_2Told(t *testing.T) {
	wantTold(t, "")
	for x := range 256 {
		wantTold(t, string([]byte{byte(x)}))
		for y := range 256 {
			wantTold(t, string([]byte{byte(x), byte(y)}))
		}
	}
	short := []string{""}
	for range 5 {
		var longer []string
		for _, s := range short {
			for _, c := range "a0_7; \n#?" {
				longer = append(longer, s+string(c))
			}
		}
		for _, s := range longer {
			wantTold(t, s)
		}
		short = longer
	}
	parts := append(strings.Fields(language), "a", "b_1", "abcdefghijkl", "abcdefghijklm", "0", "7", "00", "10", "123456789",
		"1234567890", ";", ";", " ", " ", "\n", "\n", " ", "#", "# é\n", "?", "A")
	source := rand.New(rand.NewSource(4))
	for range 20000 {
		s := ""
		for range source.Intn(12) {
			s += parts[source.Intn(len(parts))]
		}
		wantTold(t, s)
	}
}

// What is answered can be written over, its spare room too, and no other answer is another by it.
func TestP4_3NewMemory(t *testing.T) {
	const s = "reload 5; task abc period 20; # note\n x y z"
	first, _, _ := Tokens(s)
	second, _, _ := Tokens(s)
	kept := slices.Clone(second)
	for i := range first[:cap(first)] {
		first[:cap(first)][i] = name("other", -1)
	}
	if !slices.Equal(second, kept) {
		t.Errorf("another answer has changed: %v", second)
	}
	wantTold(t, s)
	lent := Words()
	before := Words()
	for i := range lent[:cap(lent)] {
		lent[:cap(lent)][i] = "task"
	}
	if strings.Join(before, " ") != language {
		t.Errorf("another answer has changed: %v", before)
	}
	TestP4_1Words(t)
}

// The texts of tokens are no pieces of the text that is handed in.
func TestP4_3NoPiece(t *testing.T) {
	bytes := []byte("task abc ; period_1 ucb;x")
	s := unsafe.String(unsafe.SliceData(bytes), len(bytes))
	l, _, err := Tokens(s)
	want, _, _ := told("task abc ; period_1 ucb;x")
	if err != api.OK || !slices.Equal(l, want) {
		t.Fatalf("Tokens(%q) = %v, %d", s, l, err)
	}
	clear(bytes)
	if !slices.Equal(l, want) {
		t.Errorf("the tokens have changed with the text: %v", l)
	}
}
