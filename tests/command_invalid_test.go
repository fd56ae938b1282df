package tests

import (
	"fmt"
	"slices"
	"strings"
	"sync"
	"testing"

	"loop.example/fractionrounds/impl"
)

// TestCommandFails tells lines with a rest as told whose function fails, in several states. The words show, begin, round, lengths, rests, again, counts, sum and runs have none that does, since the state is always a base and a fraction.
func TestCommandFails(t *testing.T) {
	seen := map[string]bool{"halves": true} // it prints not
	for _, word := range []string{"show", "begin", "round", "lengths", "rests", "again", "counts", "sum", "runs"} {
		seen[word] = true
	}
	for _, x := range []struct {
		b     int
		f     string
		lines []string
	}{
		{10, "1/7", []string{
			"base 1", "base 0", "base -0", "base -1", "base -2", "base -10", "base 17", "base 100", "base 99999", "base -99999",
			"frac 2 4", "frac 7 7", "frac 8 7", "frac 0 2", "frac 0 7", "frac 1 1", "frac 0 0", "frac 1 0", "frac -1 7", "frac 1 -7", "frac -1 -7", "frac 0 -1",
			"frac 1 1001", "frac 0 1001", "frac 1000 1001", "frac 500 1000", "frac 99999 99999", "frac 1 99999", "frac -99999 7",
			"shift -1", "shift 201", "shift 1000", "shift 99999", "shift -99999",
			"times -1", "times 1001", "times 99999", "times -99999",
			"add 2 4", "add 7 7", "add 8 7", "add 0 7", "add 0 0", "add -1 7", "add 1 -7", "add 1 1001", "add 1 0", "add 1 997", "add 998 999", "add 99999 99999",
			"digits -1", "digits 201", "digits 1000", "digits 99999", "digits -99999",
			"at -1", "at -7", "at -99999",
			"many 10", "many 2", "many 5", "many 1000", "many 1", "many 0", "many -7", "many 1001", "many 99999", "many -99999",
			"order 10", "order 2", "order 5", "order 1000", "order 1", "order 0", "order -7", "order 1001", "order 99999",
			"ones 10", "ones 2", "ones 5", "ones 1000", "ones 1", "ones 0", "ones -9", "ones 1001", "ones 99999",
			"enters 1", "enters 0", "enters -12", "enters 1001", "enters 99999",
			"full 1", "full 0", "full -20", "full 1001", "full 99999",
			"units 1", "units 0", "units -12", "units 1001", "units 99999",
			"most 1", "most 0", "most -8", "most 1001", "most 99999",
			"parts 0", "parts -1", "parts -2", "parts 4", "parts 5", "parts 7", "parts 12", "parts 99999",
			"multiple 0", "multiple 1", "multiple -2", "multiple 4", "multiple 5", "multiple 7", "multiple 12", "multiple 99999",
			"find 0 1", "find 10 1", "find -1 1", "find 4 0", "find 4 10", "find 4 -1", "find 1 9", "find 99999 1", "find 1 99999",
			"cyclic 3", "cyclic 2", "cyclic 5", "cyclic 10", "cyclic 13", "cyclic 49", "cyclic 1", "cyclic 0", "cyclic -7", "cyclic 223", "cyclic 983", "cyclic 99999",
			"right 10001 7 1", "right -10001 7 1", "right 99999 7 1", "right 1 0 1", "right 1 -7 1", "right -1 -7 1", "right 1 1001 1", "right 1 99999 1",
			"right 1 2 1", "right 1 5 1", "right 1 10 1", "right 10 10 1", "right 0 1000 1", "right 1 7 -1", "right 1 7 201", "right 1 7 99999",
		}},
		{10, "0/1", []string{"other", "parts 1", "parts 2", "multiple 1", "multiple 2", "base 1", "frac 2 4", "add 2 4"}},
		{10, "1/12", []string{"parts 1", "multiple 1", "parts 2", "multiple 2", "add 1 997"}},
		{10, "1/21", []string{"multiple 2", "parts 5", "multiple 5"}},
		{10, "1/3", []string{"parts 2", "multiple 1", "multiple 2"}},
		{10, "1/31", []string{"add 1 37", "add 1 33"}},
		{2, "0/1", []string{
			"other", "parts 1", "multiple 1", "base 1", "base 17", "frac 2 4", "shift 201", "times 1001", "add 1 1001", "digits 201", "at -1",
			"many 2", "order 2", "ones 2", "many 1000", "order 1000", "ones 1000", "enters 1", "full 1", "units 1", "most 1",
			"find 1 1", "find 0 1", "find 2 1", "find 1 0", "cyclic 7", "cyclic 2", "cyclic 9", "cyclic 211", "right 1 2 1", "right 0 1000 1", "right 1 3 201",
		}},
		{2, "1/2", []string{"parts 1", "multiple 1", "shift -1", "times -1", "add 1 997"}},
		{2, "5/13", []string{"parts 5", "parts 24", "multiple 1", "multiple 5", "find 1 1", "right 1 13 -1"}},
		{2, "1/7", []string{"multiple 1", "parts 2", "multiple 2"}},
		{16, "0/1", []string{
			"other", "parts 1", "multiple 1", "base 1", "base 17", "frac 2 4", "shift 201", "times 1001", "add 1 1001", "digits 201", "at -1",
			"many 2", "order 2", "ones 2", "many 1000", "order 1000", "ones 1000", "enters 1001", "full 1001", "units 1001", "most 1001",
			"find 16 1", "find 1 15", "find 4 16", "find 4 0", "cyclic 3", "cyclic 5", "cyclic 7", "cyclic 13", "cyclic 17", "cyclic 2", "right 1 2 1", "right 1 1000 1", "right 1 17 201",
		}},
		{16, "5/13", []string{"parts 2", "parts 6", "multiple 1", "multiple 2", "shift -1", "times -1", "add 1 997"}},
		{16, "15/16", []string{"parts 1", "multiple 1", "parts 2"}},
		{3, "1/2", []string{"parts 2", "multiple 1", "many 3", "order 999", "ones 3", "cyclic 3", "find 1 2", "find 3 1", "find 2 3", "right 1 3 1"}},
	} {
		for _, line := range x.lines {
			wantAnswer(t, stateOf(t, x.b, x.f), line, "no")
			word, _, _ := strings.Cut(line, " ")
			seen[word] = true
		}
	}
	for _, word := range allWords() {
		if !seen[word] {
			t.Errorf("nothing is told of %q that fails", word)
		}
	}
}

// someStates are those in which what prints no or what must leave the state.
func someStates(t *testing.T) []state {
	return []state{atFirst, seventh, stateOf(t, 2, "5/12"), stateOf(t, 16, "10/11")}
}

// TestCommandOtherLines tells lines that print what: those that are none of the words, and words with a rest where none is told, and without one where one is.
func TestCommandOtherLines(t *testing.T) {
	lines := []string{
		"", " ", "  ", "   ", " 1", "  1", "1", "-", "-1", "0", "10", "1/7", "zzz", "zzz 1", "zzz ", "ok", "no", "no 1", "what", "yes", "not", "too long", "help", "quit", "?",
		"FracRound", "Execute", "base=2", "base:2", "base2", "base,2", "base\t2", "frac1 7", "frac\t1 7", "digits5", "show;show", "showshow", "show,", "#", "# show", "//", "é", "日本", "\x00", "\x00 1", "\xff", "\xff 1", "\x80", "\x7f", "\r", "\t",
		" base 2", " frac 1 2", "  base 2", "\tbase 2", "the base 2", "other other",
	}
	for _, word := range allWords() {
		for _, rest := range []string{"", " ", " 1", " 7", " 1 7", " -1 7 6", " x"} {
			lines = append(lines, strings.ToUpper(word)+rest, strings.ToUpper(word[:1])+word[1:]+rest, word[:len(word)-1]+rest, word+"s"+rest, word+word+rest,
				" "+word+rest, "\t"+word+rest, "\x00"+word+rest, "\xff"+word+rest, word+"\x00"+rest, word+"\xff"+rest, word+"\t"+rest, word+"\r"+rest, word+"-"+rest, word+"1"+rest)
		}
		lines = append(lines, word+"\r", word+"\t1", word+"\v1", word+"\u00a01", word+"\u20021")
	}
	for _, word := range loneWords {
		for _, rest := range []string{"", " ", "1", "-", "0", "x", "1 7", word, "\r", "\x00", "\xff"} {
			lines = append(lines, word+" "+rest)
		}
	}
	for _, x := range goodRests {
		lines = append(lines, x.word)
	}
	for _, s := range someStates(t) {
		for _, line := range lines {
			wantAnswer(t, s, line, "what")
		}
	}
}

// spoiledNumbers are texts about a number that are none.
func spoiledNumbers(n string) []string {
	return []string{
		"", "-", "--", "+", "--" + n, "---" + n, "+" + n, "+-" + n, "-+" + n, n + "-", n + "+", "−" + n,
		strings.Repeat("0", 6-len(n)) + n, "-" + strings.Repeat("0", 6-len(n)) + n, "000000", "-000000", "100000", "-100000", "999999", "123456", "-0123456789", strings.Repeat("9", 19), strings.Repeat("9", 40), "18446744073709551617",
		n + "x", "x" + n, "x", "a", "f", n + "a", n + ".", n + ".0", "." + n, n + ",", n + ";", n + "/", n + ":", "/" + n, ":" + n, "/", ":", n + "/1", n + "e0", "0x" + n, "0X" + n, "0b1", "0o" + n, "1_0", "_" + n, n + "_", "'" + n + "'", "(" + n + ")", "NaN", "Inf", "-Inf",
		n + "\x00", "\x00" + n, "\x00", n + "\x80", n + "\xff", "\xff" + n, "\xff", n + "\r", n + "\t", "\t" + n, n + "\v", "\u00a0" + n, "\ufeff" + n, "٧", "７", "²", "½", n + "\u0661", "\xb1", "-\xb1",
	}
}

// spoiledRests are rests about the numbers of a word that are not as told.
func spoiledRests(rest []string) []string {
	good := strings.Join(rest, " ")
	list := []string{
		"", " ", "  ", "   ", "x", "-", "show", " " + good, good + " ", "  " + good, good + "  ", " " + good + " ", good + " x", good + " -", "x " + good,
		good + " 1", "1 " + good, good + " 0", good + " -0", good + " " + good, good + " 1 1", good + " 1 1 1", good + " \x00", good + "\x00", good + "\xff",
		strings.Join(rest[1:], " "), strings.Join(rest[:len(rest)-1], " "), rest[0] + " ", " " + rest[len(rest)-1],
	}
	if len(rest) > 1 {
		for _, between := range []string{"", "  ", "   ", "\t", " \t", ",", ", ", "/", "-", "\x00", "\xff", "\r", "\u00a0"} {
			list = append(list, strings.Join(rest, between), rest[0]+between+strings.Join(rest[1:], " "))
		}
	}
	for place, n := range rest {
		for _, text := range spoiledNumbers(n) {
			list = append(list, strings.Join(slices.Concat(rest[:place], []string{text}, rest[place+1:]), " "))
		}
	}
	return list
}

// TestCommandRests tells rests that are not as told, for each word with a rest, which succeeds with one as told.
func TestCommandRests(t *testing.T) {
	for _, x := range goodRests {
		good := x.word + " " + strings.Join(x.rest, " ")
		answer, behind := ask(t, seventh, good)
		if answer == "no" || answer == "what" || slices.Contains(changing, x.word) != (behind != seventh) || (behind != seventh) != (answer == "ok") {
			t.Errorf("%q prints %q and leaves %v", good, answer, behind)
		}
		for _, rest := range spoiledRests(x.rest) {
			wantAnswer(t, seventh, x.word+" "+rest, "no")
		}
		for _, s := range someStates(t) {
			for _, rest := range []string{"", " ", "x", "-", "+1", "--1", "000001", "1 ", " 1", "1  1", "1 1 1 1"} {
				wantAnswer(t, s, x.word+" "+rest, "no")
			}
		}
	}
}

// TestCommandLeadingZeros writes the numbers of each word with 0 in front, up to five digits, and 0 with a sign.
func TestCommandLeadingZeros(t *testing.T) {
	for _, x := range goodRests {
		want, behind := ask(t, seventh, x.word+" "+strings.Join(x.rest, " "))
		for length := 1; length <= 5; length++ {
			line := x.word
			for _, n := range x.rest {
				line += " " + strings.Repeat("0", max(0, length-len(n))) + n
			}
			if answer, got := ask(t, seventh, line); answer != want || got != behind {
				t.Errorf("%q prints %q and leaves %v, not %q and %v", line, answer, got, want, behind)
			}
		}
	}
	for _, zero := range []string{"0", "-0", "00", "-00", "000", "-000", "0000", "-0000", "00000", "-00000"} {
		wantAnswer(t, seventh, "digits "+zero, "-")
		wantAnswer(t, seventh, "at "+zero, "1")
		wantAnswer(t, seventh, "right "+zero+" 7 3", "000")
		wantAnswer(t, seventh, "right -1 7 "+zero, "-")
		wantAnswer(t, seventh, "base "+zero, "no")
		wantAnswer(t, seventh, "frac 1 "+zero, "no")
	}
	for _, x := range []struct{ top, answer string }{
		{"-1", "758241"}, {"-01", "758241"}, {"-00001", "758241"}, {"-10000", "000075"}, {"10000", "000034"},
		{"-10001", "no"}, {"-99999", "no"}, {"-010000", "no"}, {"-000001", "no"}, {"010000", "no"},
	} {
		wantAnswer(t, seventh, "right "+x.top+" 7 6", x.answer)
	}
}

// TestCommandBytes puts each byte but the newline at several places of lines.
func TestCommandBytes(t *testing.T) {
	for _, s := range someStates(t) {
		for code := range 256 {
			c := string([]byte{byte(code)})
			if c == "\n" {
				continue
			}
			for _, line := range []string{
				c, c + c, "show" + c, c + "show", "sho" + c, "sh" + c + "w", "show " + c, "base" + c, "base " + c, "base" + c + "2", "base 2" + c, "base " + c + "2", "base 1" + c,
				"digits" + c + "5", "digits 5" + c, "digits " + c + "5", "digits 5" + c + "5", "at 1" + c + "1", "frac 1" + c + "7", "frac" + c + "1 7", "frac 1 7" + c, "frac 1 " + c + "7",
				"right -1" + c + "7 6", "right " + c + "1 7 6", "right -" + c + " 7 6", "right -1 7 6" + c,
			} {
				behind := s
				want := modelLine(&behind, line)
				if answer, got := ask(t, s, line); answer != want || got != behind {
					t.Fatalf("%q in base %d and of %s prints %q and leaves %v, not %q and %v", line, s.b, s.shown(), answer, got, want, behind)
				}
			}
			wantAnswer(t, s, c, "what")
			wantAnswer(t, s, "show"+c, "what")
			wantAnswer(t, s, c+"show", "what")
			if code < '0' || code > '9' {
				wantAnswer(t, s, "digits "+c, "no")
				wantAnswer(t, s, "digits 5"+c, "no")
			}
		}
	}
}

// TestCommandScriptsOfBytes runs scripts that are no text.
func TestCommandScriptsOfBytes(t *testing.T) {
	var all []byte
	for code := range 256 {
		all = append(all, byte(code))
	}
	wantOutput(t, string(all), "what\nbase 10\n")
	wantOutput(t, string(all)+"\n", "what\nwhat\nbase 10\n")
	wantOutput(t, string(all)+"\n"+string(all)+"\nshow\n", "what\nwhat\nwhat\nwhat\n0/1\nbase 10\n")
	wantOutput(t, "\x00\nshow\n\xff\nshow\n\x80 1\n", "what\n0/1\nwhat\n0/1\nwhat\nbase 10\n")
	for code := range 256 {
		c := string([]byte{byte(code)})
		want := "base 10\n"
		if c == "\n" {
			want = strings.Repeat("what\n", maxScript) + want
		}
		wantOutput(t, strings.Repeat(c, maxScript), want)
		wantOutput(t, strings.Repeat(c, maxScript+1), tooLong)
		if c != "\n" {
			wantOutput(t, strings.Repeat(c, maxScript-1)+"\n", "what\nbase 10\n")
		}
	}
}

// TestCommandMaxScript runs scripts of about MaxScript bytes, which are not characters.
func TestCommandMaxScript(t *testing.T) {
	if impl.MaxScript != maxScript {
		t.Errorf("MaxScript is %d", impl.MaxScript)
	}
	shows := strings.Repeat("show\n", maxScript/5)
	wantOutput(t, shows, strings.Repeat("0/1\n", maxScript/5)+"base 10\n")
	wantOutput(t, shows[:maxScript-1], strings.Repeat("0/1\n", maxScript/5-1)+"base 10\n")
	for _, behind := range []string{"\n", " ", "x", "s", "\x00", "\xff", "show\n", "base 2\n"} {
		wantOutput(t, shows+behind, tooLong)
	}
	wantOutput(t, strings.Repeat("base 2\n", 85)+"show\n", strings.Repeat("ok\n", 85)+"0/1\nbase 2\n")
	wantOutput(t, strings.Repeat("base 2\n", 85)+"show\n\n", tooLong)
	for _, length := range []int{maxScript + 1, maxScript + 2, 2 * maxScript, 10000, 1 << 20} {
		wantOutput(t, strings.Repeat("\n", length), tooLong)
		wantOutput(t, strings.Repeat("x", length), tooLong)
		wantOutput(t, "base 2\n"+strings.Repeat(" ", length-7), tooLong)
	}
	wantOutput(t, strings.Repeat("é", 300), "base 10\n")
	wantOutput(t, strings.Repeat("é", 299)+"x\n", "what\nbase 10\n")
	wantOutput(t, strings.Repeat("é", 300)+"\n", tooLong)
	wantOutput(t, strings.Repeat("日", 200), "base 10\n")
	wantOutput(t, strings.Repeat("日", 201), tooLong)
	wantOutput(t, "digits "+strings.Repeat("0", maxScript-8)+"\n", "no\nbase 10\n")
	wantOutput(t, "right"+strings.Repeat(" ", maxScript-6)+"\n", "no\nbase 10\n")
	wantOutput(t, "digits "+strings.Repeat("1 ", 296)+"\n", "no\nbase 10\n")
}

// TestCommandNoFraction runs the scripts of promise 64 with pairs that are no fractions, and with numbers that are no bases.
func TestCommandNoFraction(t *testing.T) {
	for _, f := range wildFracs {
		line := fmt.Sprintf("frac %d %d", f.Top, f.Bottom)
		wantOutput(t, "base 16\n"+line+"\nround\nfrac 10 11\n"+line+"\nround\n", "ok\nno\n0\nok\nno\ne8ba2\nbase 16\n")
	}
	for _, b := range wildBases {
		line := fmt.Sprintf("base %d", b)
		wantOutput(t, line+"\nfrac 1 7\nround\nbase 2\n"+line+"\nround\norder 5\n", "no\nok\n142857\nok\nno\n001\n4\nbase 2\n")
	}
	for _, n := range wildBottoms {
		wantOutput(t, fmt.Sprintf("base 3\norder %d\nmany %d\nfull %d\nunits %d\n", n, n, n, n), "ok\nno\nno\nno\nno\nbase 3\n")
	}
}

// TestCommandGreatestScripts runs scripts with as many lines as there is room for that ask for what takes long.
func TestCommandGreatestScripts(t *testing.T) {
	for _, x := range []struct{ ahead, line, answer string }{
		{"", "most 997", "996"},
		{"", "most 720", "12"},
		{"base 16\n", "full 1000", "-"},
		{"base 3\n", "many 1000", "4 100"},
		{"base 7\n", "many 997", "1 996"},
		{"", "ones 999", "27"},
		{"frac 1 983\n", "parts 4", "no"},
		{"frac 1 983\n", "multiple 2", "1"},
		{"frac 1 983\n", "at 99999", "3"},
		{"frac 1 983\n", "lengths", "0 982"},
		{"", "right 0 1 200", strings.Repeat("0", 200)},
		{"frac 1 997\n", "times 1", "ok"},
	} {
		many := (maxScript - len(x.ahead)) / (len(x.line) + 1)
		want := strings.Repeat("ok\n", strings.Count(x.ahead, "\n")) + strings.Repeat(x.answer+"\n", many)
		output := execute(t, x.ahead+strings.Repeat(x.line+"\n", many))
		if got, _ := cutLast(output); got != want {
			t.Errorf("%d lines %q behind %q print %q, not %q", many, x.line, x.ahead, got, want)
		}
	}
}

// TestCommandSameAnswers runs the same scripts again and again, alone and many at once, with others between.
func TestCommandSameAnswers(t *testing.T) {
	scripts := append(toldScripts(), filled(600), filled(601), "full 1000\nmost 997\nmost 1000\nbase 3\nmany 1000\n", "frac x", "frac x\n")
	runAll := func() []string {
		var outputs []string
		for _, script := range scripts {
			outputs = append(outputs, impl.Execute(script))
		}
		return outputs
	}
	want := runAll()
	var runners sync.WaitGroup
	outputs := make([][]string, 8)
	for i := range outputs {
		runners.Go(func() { outputs[i] = runAll() })
	}
	runners.Wait()
	for _, output := range append(outputs, runAll()) {
		if !slices.Equal(output, want) {
			t.Fatal("the same scripts have other outputs")
		}
	}
}
