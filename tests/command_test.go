package tests

import (
	"fmt"
	"regexp"
	"slices"
	"strconv"
	"strings"
	"testing"

	"loop.example/fractionrounds/impl"
)

const (
	maxScript = 600 // written out, so that a changed constant is seen
	tooLong   = "too long\n"
)

// loneWords are the words without a rest.
var loneWords = []string{"other", "show", "begin", "round", "lengths", "rests", "again", "halves", "counts", "sum", "runs"}

// goodRests are the words with a rest, each one with numbers for which it does not fail in base 10 and of 1 over 7.
var goodRests = []struct {
	word string
	rest []string
}{
	{"base", []string{"16"}}, {"frac", []string{"5", "12"}}, {"shift", []string{"2"}}, {"times", []string{"3"}}, {"add", []string{"3", "14"}},
	{"digits", []string{"8"}}, {"at", []string{"4"}},
	{"many", []string{"13"}}, {"order", []string{"7"}}, {"ones", []string{"9"}}, {"enters", []string{"12"}}, {"full", []string{"20"}},
	{"units", []string{"12"}}, {"most", []string{"8"}},
	{"parts", []string{"2"}}, {"multiple", []string{"3"}},
	{"find", []string{"4", "3"}}, {"cyclic", []string{"17"}},
	{"right", []string{"1", "7", "6"}},
}

func allWords() []string {
	words := slices.Clone(loneWords)
	for _, x := range goodRests {
		words = append(words, x.word)
	}
	return words
}

// changing are the words that print ok and change what the next lines ask about.
var changing = []string{"base", "frac", "shift", "other", "times", "add"}

// state is what lines ask about.
type state struct {
	b int
	f impl.Frac
}

var (
	atFirst = state{10, impl.Frac{Top: 0, Bottom: 1}}
	seventh = state{10, impl.Frac{Top: 1, Bottom: 7}}
)

// stateOf returns the state with a fraction as it is printed.
func stateOf(t *testing.T, b int, text string) state {
	t.Helper()
	s := state{b: b}
	if _, err := fmt.Sscanf(text, "%d/%d", &s.f.Top, &s.f.Bottom); err != nil || s.shown() != text {
		t.Fatalf("%q is no fraction as it is printed", text)
	}
	return s
}

func (s state) shown() string {
	return fmt.Sprintf("%d/%d", s.f.Top, s.f.Bottom)
}

// lines are those that make this the state.
func (s state) lines() string {
	return fmt.Sprintf("base %d\nfrac %d %d\n", s.b, s.f.Top, s.f.Bottom)
}

// execute runs a script twice, and fails a test in which it panics, does not end, or has two outputs or one that ends otherwise than told.
func execute(t *testing.T, script string) string {
	t.Helper()
	name := fmt.Sprintf("Execute(%q)", script)
	var output, again string
	endsInTime(t, name, func() { output, again = impl.Execute(script), impl.Execute(script) })
	if output != again {
		t.Fatalf("%s has the outputs %q and %q", name, output, again)
	}
	if lines := strings.Count(script, "\n"); output != tooLong && (!lastLine.MatchString(output) || strings.Count(output, "\n") != lines+1) {
		t.Fatalf("%s = %q does not print %d lines and the base", name, output, lines)
	}
	return output
}

var lastLine = regexp.MustCompile(`(^|\n)base ([2-9]|1[0-6])\n$`)

func wantOutput(t *testing.T, script, want string) {
	t.Helper()
	if output := execute(t, script); output != want {
		t.Errorf("Execute(%q) = %q, not %q", script, output, want)
	}
}

// ask returns what a line prints in a state, and the state behind it.
func ask(t *testing.T, s state, line string) (string, state) {
	t.Helper()
	output := strings.Split(execute(t, s.lines()+line+"\nshow\n"), "\n")
	if len(output) != 6 || output[0] != "ok" || output[1] != "ok" {
		t.Fatalf("with %q in base %d and of %s the output is %q", line, s.b, s.shown(), output)
	}
	b, err := strconv.Atoi(strings.TrimPrefix(output[4], "base "))
	if err != nil {
		t.Fatalf("behind %q the last line is %q", line, output[4])
	}
	return output[2], stateOf(t, b, output[3])
}

// wantAnswer checks what a line prints, and that it leaves the state as it was.
func wantAnswer(t *testing.T, s state, line, want string) {
	t.Helper()
	if answer, behind := ask(t, s, line); answer != want || behind != s {
		t.Errorf("%q in base %d and of %s prints %q and leaves %v, not %q and %v", line, s.b, s.shown(), answer, behind, want, s)
	}
}

// toldLines are lines of all words that change nothing, with what they print.
var toldLines = []struct {
	b               int
	f, line, answer string
}{
	{10, "0/1", "show", "0/1"},
	{2, "1/2", "show", "1/2"},
	{16, "999/1000", "show", "999/1000"},
	{10, "1/7", "digits 0", "-"},
	{10, "1/7", "digits 1", "1"},
	{10, "1/7", "digits 8", "14285714"},
	{10, "0/1", "digits 3", "000"},
	{10, "1/12", "digits 00005", "08333"},
	{10, "1/7", "digits -0", "-"},
	{2, "5/13", "digits 14", "01100010011101"},
	{2, "1/2", "digits 3", "100"},
	{16, "5/13", "digits 7", "6276276"},
	{16, "15/16", "digits 2", "f0"},
	{12, "1/11", "digits 4", "1111"},
	{3, "1/2", "digits 5", "11111"},
	{11, "10/11", "digits 2", "a0"},
	{10, "0/1", "begin", "-"},
	{10, "1/7", "begin", "-"},
	{10, "1/12", "begin", "08"},
	{10, "999/1000", "begin", "999"},
	{10, "1/2", "begin", "5"},
	{2, "1/2", "begin", "1"},
	{2, "1/3", "begin", "-"},
	{2, "5/12", "begin", "01"},
	{2, "999/1000", "begin", "111"},
	{16, "171/256", "begin", "ab"},
	{16, "15/16", "begin", "f"},
	{16, "1/1000", "begin", "0"},
	{12, "131/144", "begin", "ab"},
	{10, "0/1", "round", "0"},
	{10, "1/2", "round", "0"},
	{10, "1/7", "round", "142857"},
	{10, "1/12", "round", "3"},
	{10, "1/9", "round", "1"},
	{10, "1/11", "round", "09"},
	{2, "5/13", "round", "011000100111"},
	{2, "0/1", "round", "0"},
	{2, "1/3", "round", "01"},
	{16, "5/13", "round", "627"},
	{16, "2/3", "round", "a"},
	{16, "1/17", "round", "0f"},
	{16, "10/11", "round", "e8ba2"},
	{13, "5/7", "round", "93"},
	{10, "0/1", "lengths", "0 1"},
	{10, "1/7", "lengths", "0 6"},
	{10, "1/12", "lengths", "2 1"},
	{10, "1/983", "lengths", "0 982"},
	{2, "5/12", "lengths", "2 2"},
	{2, "1/512", "lengths", "9 1"},
	{2, "1/1000", "lengths", "3 100"},
	{16, "1/512", "lengths", "3 1"},
	{16, "5/13", "lengths", "0 3"},
	{16, "0/1", "lengths", "0 1"},
	{10, "1/7", "at 0", "1"},
	{10, "1/7", "at 5", "7"},
	{10, "1/7", "at 6", "1"},
	{10, "1/7", "at 1000", "5"},
	{10, "1/7", "at 99999", "8"},
	{10, "1/7", "at 00002", "2"},
	{10, "1/7", "at -0", "1"},
	{10, "0/1", "at 99999", "0"},
	{10, "1/12", "at 1", "8"},
	{10, "1/12", "at 2", "3"},
	{2, "5/13", "at 1", "1"},
	{2, "5/13", "at 99998", "1"},
	{16, "5/13", "at 0", "6"},
	{16, "10/11", "at 0", "e"},
	{16, "10/11", "at 1", "8"},
	{16, "11/16", "at 0", "b"},
	{16, "3/4", "at 0", "c"},
	{16, "13/16", "at 0", "d"},
	{16, "7/8", "at 0", "e"},
	{16, "15/16", "at 0", "f"},
	{16, "15/16", "at 1", "0"},
	{16, "5/8", "at 0", "a"},
	{16, "9/16", "at 0", "9"},
	{11, "10/11", "at 0", "a"},
	{10, "0/1", "rests", "0"},
	{10, "1/7", "rests", "1 3 2 6 4 5"},
	{10, "1/12", "rests", "1 10 4"},
	{10, "1/2", "rests", "1 0"},
	{2, "5/12", "rests", "5 10 8 4"},
	{2, "1/3", "rests", "1 2"},
	{16, "5/13", "rests", "5 2 6"},
	{16, "1/100", "rests", "1 16 56 96 36 76"},
	{10, "0/1", "again", "0"},
	{10, "1/7", "again", "1 3 2 6 4 5"},
	{10, "1/12", "again", "4"},
	{10, "1/2", "again", "0"},
	{2, "5/12", "again", "8 4"},
	{2, "3/7", "again", "3 6 5"},
	{16, "5/13", "again", "5 2 6"},
	{16, "1/100", "again", "16 56 96 36 76"},
	{10, "0/1", "many 13", "2 6"},
	{10, "1/7", "many 7", "1 6"},
	{10, "1/7", "many 999", "216 3"},
	{10, "1/7", "many 9", "6 1"},
	{10, "1/7", "many 3", "2 1"},
	{2, "1/7", "many 7", "2 3"},
	{2, "0/1", "many 3", "1 2"},
	{2, "0/1", "many 999", "18 36"},
	{16, "1/7", "many 255", "64 2"},
	{16, "1/7", "many 13", "4 3"},
	{3, "0/1", "many 2", "1 1"},
	{3, "0/1", "many 1000", "4 100"},
	{3, "0/1", "many 01000", "4 100"},
	{10, "0/1", "order 7", "6"},
	{10, "1/7", "order 983", "982"},
	{10, "1/7", "order 3", "1"},
	{10, "1/7", "order 9", "1"},
	{2, "1/7", "order 7", "3"},
	{2, "1/7", "order 999", "36"},
	{16, "1/7", "order 7", "3"},
	{16, "1/7", "order 17", "2"},
	{3, "1/2", "order 2", "1"},
	{10, "1/7", "order 00007", "6"},
	{10, "0/1", "ones 9", "9"},
	{10, "1/7", "ones 7", "6"},
	{10, "1/7", "ones 3", "3"},
	{10, "1/7", "ones 999", "27"},
	{2, "1/7", "ones 7", "3"},
	{2, "1/7", "ones 3", "2"},
	{16, "1/7", "ones 15", "15"},
	{16, "1/7", "ones 17", "2"},
	{3, "0/1", "ones 2", "2"},
	{3, "0/1", "ones 1000", "100"},
	{10, "0/1", "enters 12", "2"},
	{10, "1/7", "enters 7", "0"},
	{10, "1/7", "enters 1000", "3"},
	{10, "1/7", "enters 2", "1"},
	{10, "1/7", "enters 512", "9"},
	{2, "1/7", "enters 512", "9"},
	{2, "1/7", "enters 7", "0"},
	{2, "1/7", "enters 1000", "3"},
	{16, "1/7", "enters 512", "3"},
	{16, "1/7", "enters 48", "1"},
	{16, "1/7", "enters 5", "0"},
	{10, "0/1", "full 20", "7 17 19"},
	{10, "0/1", "full 2", "-"},
	{10, "0/1", "full 6", "-"},
	{10, "0/1", "full 7", "7"},
	{10, "1/7", "full 100", "7 17 19 23 29 47 59 61 97"},
	{2, "0/1", "full 2", "-"},
	{2, "0/1", "full 3", "3"},
	{2, "0/1", "full 20", "3 5 11 13 19"},
	{16, "0/1", "full 1000", "-"},
	{4, "0/1", "full 1000", "-"},
	{3, "0/1", "full 2", "2"},
	{15, "0/1", "full 13", "2 13"},
	{9, "0/1", "full 1000", "2"},
	{10, "0/1", "units 12", "4"},
	{10, "0/1", "units 2", "1"},
	{10, "0/1", "units 1000", "400"},
	{2, "1/7", "units 997", "996"},
	{16, "1/7", "units 00256", "128"},
	{10, "0/1", "most 8", "2"},
	{10, "0/1", "most 2", "1"},
	{10, "0/1", "most 1000", "100"},
	{2, "1/7", "most 997", "996"},
	{16, "1/7", "most 15", "4"},
	{2, "1/7", "most 4", "2"},
	{10, "1/7", "parts 1", "142857"},
	{10, "1/7", "parts 2", "142 857"},
	{10, "1/7", "parts 3", "14 28 57"},
	{10, "1/7", "parts 6", "1 4 2 8 5 7"},
	{10, "1/17", "parts 4", "0588 2352 9411 7647"},
	{10, "1/3", "parts 1", "3"},
	{10, "1/21", "parts 2", "047 619"},
	{2, "5/13", "parts 3", "0110 0010 0111"},
	{2, "5/13", "parts 12", "0 1 1 0 0 0 1 0 0 1 1 1"},
	{2, "1/3", "parts 2", "0 1"},
	{16, "5/13", "parts 3", "6 2 7"},
	{16, "1/17", "parts 2", "0 f"},
	{16, "12/13", "parts 1", "ec4"},
	{16, "3/11", "parts 5", "4 5 d 1 7"},
	{12, "1/7", "parts 2", "186 a35"},
	{10, "1/7", "multiple 2", "1"},
	{10, "1/7", "multiple 3", "1"},
	{10, "6/7", "multiple 3", "2"},
	{10, "1/7", "multiple 6", "3"},
	{10, "20/21", "multiple 6", "3"},
	{2, "5/13", "multiple 4", "2"},
	{2, "5/13", "multiple 12", "6"},
	{16, "5/13", "multiple 3", "1"},
	{16, "1/17", "multiple 2", "1"},
	{2, "1/3", "multiple 2", "1"},
	{10, "1/7", "halves", "yes"},
	{10, "1/21", "halves", "not"},
	{10, "0/1", "halves", "not"},
	{10, "1/3", "halves", "not"},
	{10, "1/12", "halves", "not"},
	{10, "1/11", "halves", "yes"},
	{10, "1/41", "halves", "not"},
	{2, "5/13", "halves", "yes"},
	{2, "1/7", "halves", "not"},
	{2, "1/3", "halves", "yes"},
	{2, "1/2", "halves", "not"},
	{16, "5/13", "halves", "not"},
	{16, "1/17", "halves", "yes"},
	{16, "1/16", "halves", "not"},
	{3, "1/2", "halves", "not"},
	{10, "0/1", "find 4 4", "102564"},
	{10, "1/7", "find 4 3", "076923"},
	{10, "1/7", "find 1 1", "1"},
	{10, "1/7", "find 1 8", "8"},
	{10, "1/7", "find 9 9", "10112359550561797752808988764044943820224719"},
	{10, "1/7", "find 2 1", "052631578947368421"},
	{10, "1/7", "find 3 7", "2413793103448275862068965517"},
	{16, "0/1", "find 2 10", "5294a"},
	{16, "0/1", "find 15 15", "10112358e75d30336a0ab617909a3e202246b1ceba6066d4156c2f21347c40448d639d74c0cda82ad85e4268f880891ac73ae9819b5055b0bc84d1f"},
	{16, "1/7", "find 1 10", "a"},
	{3, "0/1", "find 2 1", "0121"},
	{3, "0/1", "find 1 1", "1"},
	{3, "0/1", "find 2 2", "1012"},
	{16, "1/7", "find 00004 00015", "3cf"},
	{10, "0/1", "cyclic 7", "142857"},
	{10, "1/3", "cyclic 17", "0588235294117647"},
	{10, "1/3", "cyclic 19", "052631578947368421"},
	{2, "0/1", "cyclic 3", "01"},
	{2, "0/1", "cyclic 13", "000100111011"},
	{2, "0/1", "cyclic 5", "0011"},
	{3, "0/1", "cyclic 2", "1"},
	{12, "0/1", "cyclic 5", "2497"},
	{12, "0/1", "cyclic 7", "186a35"},
	{15, "0/1", "cyclic 2", "7"},
	{13, "1/2", "cyclic 11", "12495ba837"},
	{10, "1/7", "counts", "0 1 1 0 1 1 0 1 1 0"},
	{10, "0/1", "counts", "1 0 0 0 0 0 0 0 0 0"},
	{10, "1/12", "counts", "0 0 0 1 0 0 0 0 0 0"},
	{10, "31/259", "counts", "0 3 0 0 0 0 1 0 0 2"},
	{2, "0/1", "counts", "1 0"},
	{2, "5/13", "counts", "6 6"},
	{2, "1/7", "counts", "2 1"},
	{2, "999/1000", "counts", "50 50"},
	{16, "5/13", "counts", "0 0 1 0 0 0 1 1 0 0 0 0 0 0 0 0"},
	{16, "0/1", "counts", "1 0 0 0 0 0 0 0 0 0 0 0 0 0 0 0"},
	{16, "15/16", "counts", "1 0 0 0 0 0 0 0 0 0 0 0 0 0 0 0"},
	{16, "10/11", "counts", "0 0 1 0 0 0 0 0 1 0 1 1 0 0 1 0"},
	{10, "1/7", "sum", "27"},
	{10, "0/1", "sum", "0"},
	{10, "1/12", "sum", "3"},
	{10, "1/983", "sum", "4419"},
	{2, "5/13", "sum", "6"},
	{2, "1/7", "sum", "1"},
	{2, "1/2", "sum", "0"},
	{16, "5/13", "sum", "15"},
	{16, "1/17", "sum", "15"},
	{16, "14/15", "sum", "14"},
	{10, "1/7", "runs", "1"},
	{10, "0/1", "runs", "1"},
	{10, "31/259", "runs", "3"},
	{10, "1/999", "runs", "2"},
	{10, "1/12", "runs", "1"},
	{2, "5/13", "runs", "3"},
	{2, "1/31", "runs", "4"},
	{2, "1/2", "runs", "1"},
	{16, "1/257", "runs", "2"},
	{16, "5/13", "runs", "1"},
	{16, "1/255", "runs", "1"},
	{10, "0/1", "right -1 7 6", "758241"},
	{10, "1/7", "right 1 7 3", "341"},
	{10, "1/7", "right 14 7 4", "2000"},
	{10, "1/7", "right -10000 1 6", "000099"},
	{10, "1/7", "right 10000 999 8", "00009998"},
	{10, "1/7", "right -1 7 0", "-"},
	{10, "1/7", "right 0 1 5", "00000"},
	{10, "0/1", "right -0 00001 00005", "00000"},
	{10, "0/1", "right -00001 00007 00006", "758241"},
	{2, "1/7", "right 1 3 7", "1101010"},
	{2, "1/7", "right -1 1 9", "111111111"},
	{2, "0/1", "right -9990 999 10", "0110111111"},
	{16, "1/7", "right -4 5 3", "ccc"},
	{16, "0/1", "right 10 1 3", "a00"},
	{16, "0/1", "right -17 1 4", "feff"},
	{16, "0/1", "right 1 999 20", "7df56ebff6df56ebff6d"},
	{15, "0/1", "right -7 13 12", "b5acd6394218"},
	{3, "0/1", "right -1 1000 5", "22200"},
}

func TestCommandLinesTold(t *testing.T) {
	seen := map[string]map[int]bool{}
	for _, x := range toldLines {
		wantAnswer(t, stateOf(t, x.b, x.f), x.line, x.answer)
		word, _, _ := strings.Cut(x.line, " ")
		if seen[word] == nil {
			seen[word] = map[int]bool{}
		}
		seen[word][x.b] = true
	}
	// The other ones change the state; "find" always fails in base 2, and "cyclic" in base 16.
	for _, word := range allWords() {
		for _, b := range []int{2, 10, 16} {
			if !seen[word][b] && !slices.Contains(changing, word) && !(word == "find" && b == 2) && !(word == "cyclic" && b == 16) {
				t.Errorf("nothing is told of %q in base %d", word, b)
			}
		}
	}
}

// TestCommandLongDigits asks for the greatest numbers of digits.
func TestCommandLongDigits(t *testing.T) {
	wantAnswer(t, seventh, "digits 200", strings.Repeat("142857", 33)+"14")
	wantAnswer(t, stateOf(t, 16, "10/11"), "digits 200", strings.Repeat("e8ba2", 40))
	wantAnswer(t, stateOf(t, 2, "1/2"), "digits 199", "1"+strings.Repeat("0", 198))
	wantAnswer(t, seventh, "right -1 7 200", strings.Repeat("758241", 33)+"75")
	wantAnswer(t, stateOf(t, 16, "0/1"), "right -10000 1 200", "0f8d"+strings.Repeat("f", 196))
	wantAnswer(t, stateOf(t, 2, "0/1"), "right -2 3 200", strings.Repeat("01", 100))
}

// TestCommandChanges tells lines that print ok, and what they leave.
func TestCommandChanges(t *testing.T) {
	for _, x := range []struct {
		b       int
		f, line string
		behind  int
		g       string
	}{
		{10, "0/1", "base 2", 2, "0/1"}, {10, "1/7", "base 2", 2, "1/7"}, {2, "1/12", "base 16", 16, "1/12"}, {16, "5/13", "base 10", 10, "5/13"},
		{10, "1/7", "base 10", 10, "1/7"}, {10, "1/7", "base 00002", 2, "1/7"}, {10, "1/7", "base 0016", 16, "1/7"}, {3, "999/1000", "base 9", 9, "999/1000"},
		{10, "0/1", "frac 1 7", 10, "1/7"}, {10, "1/7", "frac 0 1", 10, "0/1"}, {2, "1/7", "frac 999 1000", 2, "999/1000"}, {16, "1/7", "frac 1 2", 16, "1/2"},
		{10, "1/7", "frac -0 1", 10, "0/1"}, {10, "1/7", "frac 00005 00013", 10, "5/13"}, {10, "1/7", "frac 1 7", 10, "1/7"},
		{10, "1/7", "shift 0", 10, "1/7"}, {10, "1/7", "shift 1", 10, "3/7"}, {10, "1/7", "shift 6", 10, "1/7"}, {10, "1/7", "shift 200", 10, "2/7"},
		{10, "1/12", "shift 1", 10, "5/6"}, {10, "1/12", "shift 2", 10, "1/3"}, {10, "1/2", "shift 1", 10, "0/1"}, {10, "0/1", "shift 5", 10, "0/1"},
		{2, "5/12", "shift 1", 2, "5/6"}, {2, "1/7", "shift 1", 2, "2/7"}, {2, "1/1000", "shift 3", 2, "1/125"}, {16, "1/7", "shift 1", 16, "2/7"}, {16, "1/512", "shift 00002", 16, "1/2"},
		{10, "1/7", "other", 10, "6/7"}, {10, "6/7", "other", 10, "1/7"}, {2, "1/2", "other", 2, "1/2"}, {16, "1/1000", "other", 16, "999/1000"},
		{10, "1/7", "times 0", 10, "0/1"}, {10, "1/7", "times -0", 10, "0/1"}, {10, "1/7", "times 1", 10, "1/7"}, {10, "1/7", "times 10", 10, "3/7"},
		{10, "1/12", "times 1000", 10, "1/3"}, {10, "0/1", "times 1000", 10, "0/1"}, {2, "5/12", "times 3", 2, "1/4"}, {2, "1/7", "times 7", 2, "0/1"}, {16, "999/1000", "times 00999", 16, "1/1000"},
		{10, "1/7", "add 1 7", 10, "2/7"}, {10, "1/7", "add 6 7", 10, "0/1"}, {10, "1/7", "add 0 1", 10, "1/7"}, {10, "0/1", "add 1 7", 10, "1/7"},
		{10, "1/12", "add 1 4", 10, "1/3"}, {2, "1/2", "add 1 2", 2, "0/1"}, {2, "3/4", "add 1 2", 2, "1/4"}, {16, "6/7", "add 5 7", 16, "4/7"},
		{10, "999/1000", "add 999 1000", 10, "499/500"}, {16, "1/31", "add 00001 00032", 16, "63/992"},
	} {
		s, behind := stateOf(t, x.b, x.f), stateOf(t, x.behind, x.g)
		if answer, got := ask(t, s, x.line); answer != "ok" || got != behind {
			t.Errorf("%q in base %d and of %s prints %q and leaves %v, not \"ok\" and %v", x.line, s.b, x.f, answer, got, behind)
		}
	}
}

// TestCommandScriptsTold runs scripts of several lines, and the edges of scripts.
func TestCommandScriptsTold(t *testing.T) {
	for _, x := range []struct{ script, want string }{
		{"", "base 10\n"},
		{"show", "base 10\n"},
		{"base 2", "base 10\n"},
		{"zzz", "base 10\n"},
		{" ", "base 10\n"},
		{"\n", "what\nbase 10\n"},
		{" \n", "what\nbase 10\n"},
		{"  \n", "what\nbase 10\n"},
		{"\n\n \n\n", "what\nwhat\nwhat\nwhat\nbase 10\n"},
		{"\nshow", "what\nbase 10\n"},
		{"show\n", "0/1\nbase 10\n"},
		{"show\nshow", "0/1\nbase 10\n"},
		{"show\nfrac 1 7\nshow\nfrac 1 2", "0/1\nok\n1/7\nbase 10\n"},
		{"base 2\nbase 16", "ok\nbase 2\n"},
		{"base 2\nbase 16\n", "ok\nok\nbase 16\n"},
		{"base 2\nbase 16\nbase 1\nbase 17\nbase x\nbase\nbase \nbase 3 \n", "ok\nok\nno\nno\nno\nwhat\nno\nno\nbase 16\n"},
		{"base 16\nfrac 10 11\nround\nbase 2\nround\nbase 10\nround\n", "ok\nok\ne8ba2\nok\n1110100010\nok\n90\nbase 10\n"},
		{"frac 1 7\nfrac 2 4\nshow\nround\nfrac 7 7\nfrac\nfrac 1\nfrac x 1\nfrac 1 12 1\nshow\n", "ok\nno\n1/7\n142857\nno\nwhat\nno\nno\nno\n1/7\nbase 10\n"},
		{"frac 1 7\nshift 1\nshow\nshift 201\nshow\nshift\nshow\nshift 1 1\nshow\n", "ok\nok\n3/7\nno\n3/7\nwhat\n3/7\nno\n3/7\nbase 10\n"},
		{"other\nshow\nfrac 1 7\nother\nshow\nother 1\nshow\nother \nshow\n", "no\n0/1\nok\nok\n6/7\nwhat\n6/7\nwhat\n6/7\nbase 10\n"},
		{"frac 1 7\ntimes 3\ntimes 1001\nshow\ntimes -1\nshow\n", "ok\nok\nno\n3/7\nno\n3/7\nbase 10\n"},
		{"frac 1 31\nadd 1 37\nshow\nadd 1 32\nshow\nadd 2 4\nshow\n", "ok\nno\n1/31\nok\n63/992\nno\n63/992\nbase 10\n"},
		{"base 2\nfrac 1 12\nbegin\nround\nbase 3\nbegin\nround\nbase 10\nbegin\nround\n", "ok\nok\n00\n01\nok\n0\n02\nok\n08\n3\nbase 10\n"},
		{"base 16\norder 7\nbase 2\norder 7\nbase 10\norder 7\nbase 7\norder 7\nmany 16\n", "ok\n3\nok\n3\nok\n6\nok\nno\n4 2\nbase 7\n"},
		{"show\r\nshow\r\n", "what\nwhat\nbase 10\n"},
		{"base 2\r\nbase 3\n", "no\nok\nbase 3\n"},
		{"show\rshow\n", "what\nbase 10\n"},
		{"frac 1 12\ndigits 5\nat 0\nat 1\nlengths\nrests\nagain\nparts 1\nhalves\ncounts\nsum\nruns\n", "ok\n08333\n0\n8\n2 1\n1 10 4\n4\nno\nnot\n0 0 0 1 0 0 0 0 0 0\n3\n1\nbase 10\n"},
		{"base 16\nfrac 15 16\nshow\nshift 1\nshow\nbegin\nround\ndigits 2\ncounts\n", "ok\nok\n15/16\nok\n0/1\n-\n0\n00\n1 0 0 0 0 0 0 0 0 0 0 0 0 0 0 0\nbase 16\n"},
	} {
		wantOutput(t, x.script, x.want)
	}
}

// toldScripts are scripts of complete lines: none, some told, and all of many lines by turns, as many as there is room for.
func toldScripts() []string {
	var pool []string
	for _, x := range toldLines {
		s := fmt.Sprintf("base %d\n", x.b)
		if top, bottom, _ := strings.Cut(x.f, "/"); x.f != "0/1" {
			s += "frac " + top + " " + bottom + "\n"
		}
		pool = append(pool, s+x.line+"\n")
	}
	pool = append(pool, "shift 1\n", "other\n", "times 7\n", "add 1 3\n", "zzz\n", "\n", " \n", "frac x\n", "base 0\n", "digits\n", "show 1\n", "frac 2 4\n", "\x00\n", "\xff\n")
	scripts := []string{"", "\n", "show\n", "base 2\n", "base 16\n", "frac 1 7\n", "no\n", "what\n", strings.Repeat("\n", 100)}
	for i := range pool {
		script := ""
		for place := i; len(script)+len(pool[place%len(pool)]) <= maxScript; place += 53 {
			script += pool[place%len(pool)]
		}
		scripts = append(scripts, script)
	}
	return scripts
}

// filled returns a script of complete lines with a number of bytes from 40 on, the state behind which is not that at first.
func filled(bytes int) string {
	script := "base 16\nfrac 10 11\n"
	for bytes-len(script) > 60 {
		script += "round\ncounts\nzzz\n"
	}
	return script + strings.Repeat("x", bytes-len(script)-1) + "\n"
}

// TestP61 checks the empty script, and what is behind the last newline.
func TestP61(t *testing.T) {
	wantOutput(t, "", "base 10\n")
	behind := []string{"show", "zzz", "base 3", "base 2", "frac 1 2", "frac x", "other", " ", "\x00", "\xff", "\r", "base 7 ", "too long"}
	for _, script := range append(toldScripts(), filled(40), filled(588), filled(599), filled(600)) {
		want := execute(t, script)
		if want == "" || want == tooLong {
			t.Fatalf("Execute(%q) = %q", script, want)
		}
		for _, text := range append(behind, strings.Repeat("x", max(0, maxScript-len(script)))) {
			if len(script+text) <= maxScript {
				wantOutput(t, script+text, want)
			} else {
				wantOutput(t, script+text, tooLong)
			}
		}
	}
}

// cutLast returns an output without its last line, and this line.
func cutLast(output string) (string, string) {
	place := strings.LastIndex(strings.TrimSuffix(output, "\n"), "\n") + 1
	return output[:place], output[place:]
}

// TestP62 checks "zzz" and "frac x" behind scripts of complete lines.
func TestP62(t *testing.T) {
	const lines = "zzz\nfrac x\n"
	for _, script := range append(toldScripts(), filled(40), filled(maxScript-12), filled(maxScript-11)) {
		if len(script)+len(lines) > maxScript {
			wantOutput(t, script+lines, tooLong)
			continue
		}
		ahead, last := cutLast(execute(t, script))
		wantOutput(t, script+lines, ahead+"what\nno\n"+last)
	}
	wantOutput(t, filled(maxScript-10)+lines, tooLong)
}

// TestP63 checks two lines "show" behind scripts of complete lines.
func TestP63(t *testing.T) {
	const lines = "show\nshow\n"
	for _, script := range append(toldScripts(), filled(40), filled(maxScript-11), filled(maxScript-10)) {
		if len(script)+len(lines) > maxScript {
			wantOutput(t, script+lines, tooLong)
			continue
		}
		ahead, last := cutLast(execute(t, script))
		output := execute(t, script+lines)
		shown, found := strings.CutPrefix(strings.TrimSuffix(output, last), ahead)
		if first, second, _ := strings.Cut(shown, "\n"); !found || first+"\n" != second || !strings.Contains(first, "/") {
			t.Fatalf("Execute(%q) = %q, but without two lines \"show\" it is %q", script+lines, output, ahead+last)
		}
	}
	wantOutput(t, filled(maxScript-9)+lines, tooLong)
}

// TestP64 compares rounds that are printed with FracRound, and with long division.
func TestP64(t *testing.T) {
	eachSome(func(b int, f impl.Frac) {
		_, want := longDivision(b, f)
		digits := round(t, b, f)
		script := state{b, f}.lines() + "round\n"
		if output := impl.Execute(script); !slices.Equal(digits, want) || output != fmt.Sprintf("ok\nok\n%s\nbase %d\n", textOf(want), b) {
			t.Fatalf("Execute(%q) = %q, but the round is %v", script, output, want)
		}
	})
}

// TestP65 compares orders that are printed with OrderOf, and with powers.
func TestP65(t *testing.T) {
	told := 0
	eachBottom(func(b, n int) {
		script := fmt.Sprintf("base %d\norder %d\n", b, n)
		want := "no"
		if k, ok := impl.OrderOf(b, n); ok {
			want = strconv.Itoa(k)
			told++
			if !powerIsOne(b, k, n) {
				t.Fatalf("OrderOf(%d, %d) = %d", b, n, k)
			}
		}
		if output := impl.Execute(script); output != fmt.Sprintf("ok\n%s\nbase %d\n", want, b) {
			t.Fatalf("Execute(%q) = %q, but the order is %s", script, output, want)
		}
	})
	if told < 5000 {
		t.Fatalf("only %d orders are told", told)
	}
}

var numberForm = regexp.MustCompile(`^-?[0-9]{1,5}$`)

// modelWords tells how many numbers the rest of a word has, and what functions of the other chapters answer. None has a rest of no numbers.
var modelWords = map[string]struct {
	many int
	ask  func(s *state, n []int) (string, bool)
}{
	"base":     {1, func(s *state, n []int) (string, bool) { return s.become(n[0], s.f, n[0] >= 2 && n[0] <= 16) }},
	"frac":     {2, func(s *state, n []int) (string, bool) { f := fracOver(n); return s.become(s.b, f, impl.FracIn(f)) }},
	"shift":    {1, func(s *state, n []int) (string, bool) { return s.take(impl.RestShift(s.b, s.f, n[0])) }},
	"other":    {0, func(s *state, n []int) (string, bool) { return s.take(impl.RestOther(s.f)) }},
	"times":    {1, func(s *state, n []int) (string, bool) { return s.take(impl.SumTimes(s.f, n[0])) }},
	"add":      {2, func(s *state, n []int) (string, bool) { return s.take(impl.SumOf(s.f, fracOver(n))) }},
	"show":     {0, func(s *state, n []int) (string, bool) { return s.shown(), true }},
	"digits":   {1, func(s *state, n []int) (string, bool) { return modelDigits(impl.FracDigits(s.b, s.f, n[0])) }},
	"begin":    {0, func(s *state, n []int) (string, bool) { return modelDigits(impl.FracBegin(s.b, s.f)) }},
	"round":    {0, func(s *state, n []int) (string, bool) { return modelDigits(impl.FracRound(s.b, s.f)) }},
	"lengths":  {0, func(s *state, n []int) (string, bool) { return modelTwo(impl.FracLengths(s.b, s.f)) }},
	"at":       {1, func(s *state, n []int) (string, bool) { return modelDigit(impl.FracDigit(s.b, s.f, n[0])) }},
	"rests":    {0, func(s *state, n []int) (string, bool) { return modelList(impl.RestList(s.b, s.f)) }},
	"again":    {0, func(s *state, n []int) (string, bool) { return modelList(impl.RestRound(s.b, s.f)) }},
	"many":     {1, func(s *state, n []int) (string, bool) { return modelTwo(impl.RestMany(s.b, n[0])) }},
	"order":    {1, func(s *state, n []int) (string, bool) { return modelNumber(impl.OrderOf(s.b, n[0])) }},
	"ones":     {1, func(s *state, n []int) (string, bool) { return modelNumber(impl.OrderOnes(s.b, n[0])) }},
	"enters":   {1, func(s *state, n []int) (string, bool) { return modelNumber(impl.OrderBegin(s.b, n[0])) }},
	"full":     {1, func(s *state, n []int) (string, bool) { return modelList(impl.OrderFull(s.b, n[0])) }},
	"units":    {1, func(s *state, n []int) (string, bool) { return modelNumber(impl.OrderUnits(n[0])) }},
	"most":     {1, func(s *state, n []int) (string, bool) { return modelNumber(impl.OrderMost(n[0])) }},
	"parts":    {1, func(s *state, n []int) (string, bool) { return modelParts(impl.PartList(s.b, s.f, n[0])) }},
	"multiple": {1, func(s *state, n []int) (string, bool) { return modelNumber(impl.PartMultiple(s.b, s.f, n[0])) }},
	"halves":   {0, func(s *state, n []int) (string, bool) { return modelHolds(impl.PartHalves(s.b, s.f)) }},
	"find":     {2, func(s *state, n []int) (string, bool) { return modelDigits(impl.TurnFind(s.b, n[0], n[1])) }},
	"cyclic":   {1, func(s *state, n []int) (string, bool) { return modelDigits(impl.TurnCyclic(s.b, n[0])) }},
	"counts":   {0, func(s *state, n []int) (string, bool) { return modelList(impl.CountDigits(s.b, s.f)) }},
	"sum":      {0, func(s *state, n []int) (string, bool) { return modelNumber(impl.CountSum(s.b, s.f)) }},
	"runs":     {0, func(s *state, n []int) (string, bool) { return modelNumber(impl.CountRuns(s.b, s.f)) }},
	"right":    {3, func(s *state, n []int) (string, bool) { return modelDigits(impl.RightDigits(s.b, n[0], n[1], n[2])) }},
}

func fracOver(n []int) impl.Frac {
	return impl.Frac{Top: n[0], Bottom: n[1]}
}

func (s *state) become(b int, f impl.Frac, ok bool) (string, bool) {
	if ok {
		s.b, s.f = b, f
	}
	return "ok", ok
}

func (s *state) take(f impl.Frac, ok bool) (string, bool) {
	return s.become(s.b, f, ok)
}

func modelNumber(n int, ok bool) (string, bool) { return fmt.Sprint(n), ok }

func modelTwo(n, m int, ok bool) (string, bool) { return fmt.Sprint(n, m), ok }

func modelDigit(n int, ok bool) (string, bool) { return fmt.Sprintf("%x", n), ok }

func modelDigits(digits []int, ok bool) (string, bool) {
	return orDash(textOf(digits)), ok
}

func modelList(list []int, ok bool) (string, bool) {
	return orDash(strings.Trim(fmt.Sprint(list), "[]")), ok
}

func modelParts(parts [][]int, ok bool) (string, bool) {
	var texts []string
	for _, part := range parts {
		texts = append(texts, textOf(part))
	}
	return orDash(strings.Join(texts, " ")), ok
}

func modelHolds(holds bool) (string, bool) {
	return map[bool]string{true: "yes", false: "not"}[holds], true
}

func orDash(text string) string {
	if text == "" {
		return "-"
	}
	return text
}

// modelLine returns what a line prints, and changes the state.
func modelLine(s *state, line string) string {
	word, rest, told := strings.Cut(line, " ")
	x, known := modelWords[word]
	if !known || told != (x.many > 0) {
		return "what"
	}
	var n []int
	if told {
		for text := range strings.SplitSeq(rest, " ") {
			if !numberForm.MatchString(text) {
				return "no"
			}
			number, _ := strconv.Atoi(text)
			n = append(n, number)
		}
	}
	if len(n) != x.many {
		return "no"
	}
	answer, ok := x.ask(s, n)
	if !ok {
		return "no"
	}
	return answer
}

// wantModel checks the output of lines that are run one behind the other, as many in one script as there is room for.
func wantModel(t *testing.T, s state, lines []string) {
	t.Helper()
	first, script, want := s, s.lines(), "ok\nok\n"
	end := func() {
		wantOutput(t, script, want+fmt.Sprintf("base %d\n", s.b))
		s, script, want = first, first.lines(), "ok\nok\n"
	}
	for _, line := range lines {
		if len(script)+len(line)+len("\nshow\n") > maxScript {
			end()
		}
		script += line + "\nshow\n"
		want += modelLine(&s, line) + "\n" + s.shown() + "\n"
	}
	end()
}

// TestCommandModel runs lines of all words in several states, each one followed by a line that shows the fraction.
func TestCommandModel(t *testing.T) {
	var lines []string
	for i, x := range goodRests {
		lines = append(lines, loneWords[i%len(loneWords)])
		for _, n := range []int{-1, 0, 1, 2, 3, 4, 5, 6, 7, 9, 10, 12, 13, 15, 16, 17, 100, 101, 200, 201, 251, 983, 1000, 1001, 10000, 99999, -99999} {
			for _, rest := range []string{"%d", "%05d", "%d 7", "1 %d", "%d %[1]d", "%d 7 4", "1 %d 4", "-1 7 %d", " %d", "%d "} {
				lines = append(lines, x.word+" "+fmt.Sprintf(strings.ReplaceAll(rest, "%d", "%[1]d"), n))
			}
		}
		lines = append(lines, x.word, loneWords[i%len(loneWords)]+" ", "base 10")
	}
	for _, x := range []struct {
		b int
		f string
	}{{2, "0/1"}, {2, "5/12"}, {3, "1/2"}, {7, "1/1000"}, {10, "0/1"}, {10, "1/7"}, {10, "1/21"}, {12, "131/144"}, {15, "12/13"}, {16, "5/13"}, {16, "999/1000"}} {
		wantModel(t, stateOf(t, x.b, x.f), lines)
	}
}
