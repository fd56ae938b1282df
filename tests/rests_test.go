package tests

import (
	"fmt"
	"slices"
	"testing"

	"loop.example/fractionrounds/impl"
)

// toldRests are fractions with their rests ahead of the round and in it, worked out by hand.
var toldRests = []struct {
	b     int
	f     impl.Frac
	ahead []int
	again []int
}{
	{2, zeroFrac, nil, []int{0}},
	{10, zeroFrac, nil, []int{0}},
	{16, zeroFrac, nil, []int{0}},
	{2, impl.Frac{Top: 1, Bottom: 3}, nil, []int{1, 2}},
	{2, impl.Frac{Top: 5, Bottom: 7}, nil, []int{5, 3, 6}},
	{10, impl.Frac{Top: 1, Bottom: 7}, nil, []int{1, 3, 2, 6, 4, 5}},
	{10, impl.Frac{Top: 5, Bottom: 13}, nil, []int{5, 11, 6, 8, 2, 7}},
	{16, impl.Frac{Top: 1, Bottom: 17}, nil, []int{1, 16}},
	{16, impl.Frac{Top: 2, Bottom: 11}, nil, []int{2, 10, 6, 8, 7}},
	// Bottoms with a common divisor with the base: their rests stay those by
	// the whole bottom.
	{2, impl.Frac{Top: 1, Bottom: 10}, []int{1}, []int{2, 4, 8, 6}},
	{2, impl.Frac{Top: 1, Bottom: 12}, []int{1, 2}, []int{4, 8}},
	{10, impl.Frac{Top: 1, Bottom: 6}, []int{1}, []int{4}},
	{10, impl.Frac{Top: 1, Bottom: 12}, []int{1, 10}, []int{4}},
	{10, impl.Frac{Top: 3, Bottom: 14}, []int{3}, []int{2, 6, 4, 12, 8, 10}},
	{10, impl.Frac{Top: 1, Bottom: 44}, []int{1, 10}, []int{12, 32}},
	{16, impl.Frac{Top: 1, Bottom: 10}, []int{1}, []int{6}},
	{16, impl.Frac{Top: 5, Bottom: 14}, []int{5}, []int{10, 6, 12}},
	// Fractions that end.
	{2, impl.Frac{Top: 5, Bottom: 8}, []int{5, 2, 4}, []int{0}},
	{10, impl.Frac{Top: 1, Bottom: 2}, []int{1}, []int{0}},
	{10, impl.Frac{Top: 1, Bottom: 1000}, []int{1, 10, 100}, []int{0}},
	{10, impl.Frac{Top: 999, Bottom: 1000}, []int{999, 990, 900}, []int{0}},
	{16, impl.Frac{Top: 3, Bottom: 512}, []int{3, 48, 256}, []int{0}},
}

// TestRestsTold checks RestList and RestRound by hand.
func TestRestsTold(t *testing.T) {
	for _, x := range toldRests {
		name := fmt.Sprintf("(%d, %v)", x.b, x.f)
		list, ok := impl.RestList(x.b, x.f)
		wantList(t, "RestList"+name, list, ok, slices.Concat(x.ahead, x.again))
		again, ok := impl.RestRound(x.b, x.f)
		wantList(t, "RestRound"+name, again, ok, x.again)
	}
}

// restsOf returns the first k rests of a fraction, as the document tells them.
func restsOf(b int, f impl.Frac, k int) []int {
	var rests []int
	rest := f.Top
	for range k {
		rests = append(rests, rest)
		rest = rest * b % f.Bottom
	}
	return rests
}

// TestP10 checks that the rests are all different, as many as digits of beginning and round, and that they tell these digits.
func TestP10(t *testing.T) {
	eachSome(func(b int, f impl.Frac) {
		list, ok := impl.RestList(b, f)
		first, again := longDivision(b, f)
		digits := slices.Concat(first, again)
		wantList(t, fmt.Sprintf("RestList(%d, %v)", b, f), list, ok, restsOf(b, f, len(digits)))
		seen := make([]bool, f.Bottom)
		for place, rest := range list {
			if seen[rest] {
				t.Fatalf("RestList(%d, %v) = %v has %d twice", b, f, list, rest)
			}
			seen[rest] = true
			if rest*b/f.Bottom != digits[place] {
				t.Fatalf("RestList(%d, %v) has %d at the place %d, but the digit is %d", b, f, rest, place, digits[place])
			}
		}
		if !seen[list[len(list)-1]*b%f.Bottom] {
			t.Fatalf("RestList(%d, %v) = %v stops ahead of the first rest that comes again", b, f, list)
		}
	})
}

// TestP10Digits compares the rests with FracDigit.
func TestP10Digits(t *testing.T) {
	for _, b := range []int{2, 6, 10, 16} {
		for _, f := range []impl.Frac{zeroFrac, {Top: 1, Bottom: 7}, {Top: 5, Bottom: 12}, {Top: 3, Bottom: 512}, {Top: 982, Bottom: 983}, {Top: 1, Bottom: 1000}} {
			list, ok := impl.RestList(b, f)
			if !ok {
				t.Fatalf("RestList(%d, %v) fails", b, f)
			}
			for place, rest := range list {
				if digit, ok := impl.FracDigit(b, f, place); !ok || rest*b/f.Bottom != digit {
					t.Fatalf("RestList(%d, %v) has %d at the place %d, but FracDigit is %d, %v", b, f, rest, place, digit, ok)
				}
			}
		}
	}
}

// TestP11 checks that the round of rests ends RestList, comes round, and is as long as that of digits.
func TestP11(t *testing.T) {
	eachSome(func(b int, f impl.Frac) {
		again, ok := impl.RestRound(b, f)
		if digits := round(t, b, f); !ok || len(again) != len(digits) {
			t.Fatalf("RestRound(%d, %v) = %v, %v, but FracRound is %v", b, f, again, ok, digits)
		}
		list, ok := impl.RestList(b, f)
		if !ok || len(again) > len(list) || !slices.Equal(list[len(list)-len(again):], again) {
			t.Fatalf("RestRound(%d, %v) = %v does not end RestList, %v, %v", b, f, again, list, ok)
		}
		if again[len(again)-1]*b%f.Bottom != again[0] {
			t.Fatalf("RestRound(%d, %v) = %v does not come round", b, f, again)
		}
	})
}

// shift is for arguments for which RestShift must succeed.
func shift(t *testing.T, b int, f impl.Frac, k int) impl.Frac {
	t.Helper()
	g, ok := impl.RestShift(b, f, k)
	if !ok || !impl.FracIn(g) {
		t.Fatalf("RestShift(%d, %v, %d) = %v, %v", b, f, k, g, ok)
	}
	return g
}

// checkShift compares RestShift with the digits of both fractions, as promise 12 tells it, and with those at places where k is greater.
func checkShift(t *testing.T, b int, f impl.Frac, k int) {
	t.Helper()
	g := shift(t, b, f, k)
	digits, ok := impl.FracDigits(b, g, 20)
	if !ok {
		t.Fatalf("FracDigits(%d, %v, 20) fails", b, g)
	}
	if k <= 180 {
		all, okAll := impl.FracDigits(b, f, k+20)
		wantList(t, fmt.Sprintf("RestShift(%d, %v, %d) is %v: FracDigits of it", b, f, k, g), digits, okAll, all[k:])
		return
	}
	for place, digit := range digits {
		if want, ok := impl.FracDigit(b, f, k+place); !ok || digit != want {
			t.Fatalf("RestShift(%d, %v, %d) = %v has the digits %v, but at %d is %d, %v", b, f, k, g, digits, k+place, want, ok)
		}
	}
}

// TestP12 checks RestShift for some fractions, and compares it with what is left by long division.
func TestP12(t *testing.T) {
	eachSome(func(b int, f impl.Frac) {
		for _, k := range []int{0, 1, 2, 3, (f.Top + f.Bottom*b) % 181, 180, 200} {
			rest := restsOf(b, f, k+1)[k]
			common := divisor(rest, f.Bottom)
			want := impl.Frac{Top: rest / common, Bottom: f.Bottom / common}
			if got := shift(t, b, f, k); got != want {
				t.Fatalf("RestShift(%d, %v, %d) = %v, not %v", b, f, k, got, want)
			}
		}
	})
}

// TestP12Digits checks each k for some fractions, bottoms with a common divisor with the base among them.
func TestP12Digits(t *testing.T) {
	for _, b := range []int{2, 3, 10, 12, 16} {
		for _, f := range []impl.Frac{zeroFrac, {Top: 1, Bottom: 2}, {Top: 6, Bottom: 7}, {Top: 5, Bottom: 12}, {Top: 3, Bottom: 512}, {Top: 982, Bottom: 983}, {Top: 1, Bottom: 1000}} {
			for k := range 201 {
				checkShift(t, b, f, k)
			}
		}
	}
}

func TestP12Edges(t *testing.T) {
	twelfth := impl.Frac{Top: 1, Bottom: 12}
	for _, x := range []struct {
		b    int
		f    impl.Frac
		k    int
		want impl.Frac
		ok   bool
	}{
		{10, impl.Frac{Top: 1, Bottom: 7}, 0, impl.Frac{Top: 1, Bottom: 7}, true},
		{10, impl.Frac{Top: 1, Bottom: 7}, 1, impl.Frac{Top: 3, Bottom: 7}, true},
		{10, impl.Frac{Top: 1, Bottom: 7}, 6, impl.Frac{Top: 1, Bottom: 7}, true},
		{10, impl.Frac{Top: 1, Bottom: 7}, 180, impl.Frac{Top: 1, Bottom: 7}, true},
		{10, impl.Frac{Top: 1, Bottom: 7}, 200, impl.Frac{Top: 2, Bottom: 7}, true},
		{10, impl.Frac{Top: 1, Bottom: 7}, 201, impl.Frac{}, false},
		{10, impl.Frac{Top: 1, Bottom: 7}, -1, impl.Frac{}, false},
		{10, twelfth, 0, twelfth, true},
		{10, twelfth, 1, impl.Frac{Top: 5, Bottom: 6}, true},
		{10, twelfth, 2, impl.Frac{Top: 1, Bottom: 3}, true},
		{10, twelfth, 200, impl.Frac{Top: 1, Bottom: 3}, true},
		{10, twelfth, 201, impl.Frac{}, false},
		{2, impl.Frac{Top: 5, Bottom: 8}, 2, impl.Frac{Top: 1, Bottom: 2}, true},
		{2, impl.Frac{Top: 5, Bottom: 8}, 3, zeroFrac, true},
		{16, impl.Frac{Top: 5, Bottom: 8}, 1, zeroFrac, true},
		{16, impl.Frac{Top: 1, Bottom: 17}, 199, impl.Frac{Top: 16, Bottom: 17}, true},
		{16, zeroFrac, 0, zeroFrac, true},
		{16, zeroFrac, 200, zeroFrac, true},
		{16, zeroFrac, 201, impl.Frac{}, false},
	} {
		if got, ok := impl.RestShift(x.b, x.f, x.k); ok != x.ok || got != x.want {
			t.Errorf("RestShift(%d, %v, %d) = %v, %v, not %v, %v", x.b, x.f, x.k, got, ok, x.want, x.ok)
		}
	}
}

// TestP13 checks that RestOther leads back, and that the digits of both add up to 1 less than the base where they do not end.
func TestP13(t *testing.T) {
	for _, f := range someFracs() {
		g, ok := impl.RestOther(f)
		if f == zeroFrac {
			if ok || g != (impl.Frac{}) {
				t.Fatalf("RestOther(%v) = %v, %v", f, g, ok)
			}
			continue
		}
		if want := (impl.Frac{Top: f.Bottom - f.Top, Bottom: f.Bottom}); !ok || g != want {
			t.Fatalf("RestOther(%v) = %v, %v, not %v", f, g, ok, want)
		}
		if back, ok := impl.RestOther(g); !ok || back != f {
			t.Fatalf("RestOther(%v) = %v, %v, and does not lead back to %v", g, back, ok, f)
		}
		for _, b := range []int{2, 10, 16} {
			if !impl.FracEnds(b, f) {
				checkOther(t, b, f, g)
			}
		}
	}
}

func checkOther(t *testing.T, b int, f, g impl.Frac) {
	t.Helper()
	digits, ok := impl.FracDigits(b, f, 60)
	others, okOther := impl.FracDigits(b, g, 60)
	if !ok || !okOther {
		t.Fatalf("FracDigits of %v or %v in base %d fails", f, g, b)
	}
	for place, digit := range digits {
		if digit+others[place] != b-1 {
			t.Fatalf("the digits of %v and %v in base %d at the place %d are %d and %d", f, g, b, place, digit, others[place])
		}
	}
}

func TestP13Edges(t *testing.T) {
	for _, x := range [][2]impl.Frac{
		{{Top: 1, Bottom: 2}, {Top: 1, Bottom: 2}},
		{{Top: 1, Bottom: 3}, {Top: 2, Bottom: 3}},
		{{Top: 5, Bottom: 12}, {Top: 7, Bottom: 12}},
		{{Top: 1, Bottom: 1000}, {Top: 999, Bottom: 1000}},
		{{Top: 999, Bottom: 1000}, {Top: 1, Bottom: 1000}},
	} {
		if got, ok := impl.RestOther(x[0]); !ok || got != x[1] {
			t.Errorf("RestOther(%v) = %v, %v, not %v", x[0], got, ok, x[1])
		}
	}
	for _, f := range []impl.Frac{{Top: 0, Bottom: 1}, {Top: 0, Bottom: 2}, {Top: 0, Bottom: 1000}, {Top: 1, Bottom: 1}} {
		if got, ok := impl.RestOther(f); ok || got != (impl.Frac{}) {
			t.Errorf("RestOther(%v) = %v, %v", f, got, ok)
		}
	}
}

// turned reports whether a list is another one with some numbers taken from the beginning to the end.
func turned(list, other []int) bool {
	if len(list) != len(other) {
		return false
	}
	for k := range other {
		if slices.Equal(list, slices.Concat(other[k:], other[:k])) {
			return true
		}
	}
	return false
}

// checkSame compares RestSame with the rounds of long division, and checks promise 14.
func checkSame(t *testing.T, b int, f, g impl.Frac) bool {
	t.Helper()
	_, again := longDivision(b, f)
	_, other := longDivision(b, g)
	want := turned(again, other)
	if impl.RestSame(b, f, g) != want || impl.RestSame(b, g, f) != want {
		t.Fatalf("RestSame(%d, %v, %v) or the other way about is not %v: the rounds are %v and %v", b, f, g, want, again, other)
	}
	if want {
		_, n := lengths(t, b, f)
		if _, m := lengths(t, b, g); n != m {
			t.Fatalf("RestSame(%d, %v, %v) holds, but the lengths are %d and %d", b, f, g, n, m)
		}
	}
	return want
}

// TestP14 checks all pairs of fractions with small bottoms.
func TestP14(t *testing.T) {
	var fracs []impl.Frac
	for _, bottom := range []int{1, 2, 3, 4, 6, 7, 9, 11, 12, 13, 14, 15, 22, 26, 41} {
		fracs = append(fracs, fracsOver(bottom)...)
	}
	for _, b := range []int{2, 3, 10, 12, 16} {
		count := map[bool]int{}
		for i, f := range fracs {
			for _, g := range fracs[i:] {
				count[checkSame(t, b, f, g)]++
			}
		}
		if count[true] <= len(fracs) || count[false] == 0 {
			t.Fatalf("in base %d, %d pairs are the same and %d are not", b, count[true], count[false])
		}
	}
}

func TestP14Edges(t *testing.T) {
	for _, x := range []struct {
		b    int
		f, g impl.Frac
		want bool
	}{
		{10, zeroFrac, zeroFrac, true},
		{10, impl.Frac{Top: 1, Bottom: 7}, impl.Frac{Top: 1, Bottom: 7}, true},
		{10, impl.Frac{Top: 1, Bottom: 7}, impl.Frac{Top: 6, Bottom: 7}, true},
		{10, impl.Frac{Top: 1, Bottom: 13}, impl.Frac{Top: 12, Bottom: 13}, true},
		{10, impl.Frac{Top: 1, Bottom: 13}, impl.Frac{Top: 2, Bottom: 13}, false},
		{2, impl.Frac{Top: 1, Bottom: 7}, impl.Frac{Top: 4, Bottom: 7}, true},
		{2, impl.Frac{Top: 1, Bottom: 7}, impl.Frac{Top: 3, Bottom: 7}, false},
		{16, impl.Frac{Top: 1, Bottom: 17}, impl.Frac{Top: 16, Bottom: 17}, true},
		{16, impl.Frac{Top: 1, Bottom: 17}, impl.Frac{Top: 2, Bottom: 17}, false},
		// Rounds as long as each other, of bottoms that differ.
		{10, impl.Frac{Top: 1, Bottom: 7}, impl.Frac{Top: 1, Bottom: 13}, false},
		{10, impl.Frac{Top: 1, Bottom: 3}, impl.Frac{Top: 1, Bottom: 9}, false},
		// Bottoms with a common divisor with the base.
		{10, impl.Frac{Top: 1, Bottom: 12}, impl.Frac{Top: 1, Bottom: 3}, true},
		{10, impl.Frac{Top: 1, Bottom: 12}, impl.Frac{Top: 2, Bottom: 3}, false},
		{10, impl.Frac{Top: 1, Bottom: 6}, impl.Frac{Top: 2, Bottom: 3}, true},
		{10, impl.Frac{Top: 1, Bottom: 6}, impl.Frac{Top: 5, Bottom: 12}, true},
		{10, impl.Frac{Top: 3, Bottom: 14}, impl.Frac{Top: 5, Bottom: 28}, true},
		{10, impl.Frac{Top: 1, Bottom: 26}, impl.Frac{Top: 1, Bottom: 13}, false},
		{10, impl.Frac{Top: 1, Bottom: 26}, impl.Frac{Top: 5, Bottom: 13}, true},
		{2, impl.Frac{Top: 1, Bottom: 10}, impl.Frac{Top: 4, Bottom: 5}, true},
		{2, impl.Frac{Top: 1, Bottom: 14}, impl.Frac{Top: 3, Bottom: 14}, false},
		{16, impl.Frac{Top: 1, Bottom: 10}, impl.Frac{Top: 3, Bottom: 5}, true},
		{16, impl.Frac{Top: 1, Bottom: 10}, impl.Frac{Top: 1, Bottom: 5}, false},
		// Fractions that end, and those that do not.
		{10, zeroFrac, impl.Frac{Top: 1, Bottom: 2}, true},
		{10, impl.Frac{Top: 1, Bottom: 2}, impl.Frac{Top: 999, Bottom: 1000}, true},
		{10, impl.Frac{Top: 1, Bottom: 2}, impl.Frac{Top: 1, Bottom: 3}, false},
		{10, zeroFrac, impl.Frac{Top: 1, Bottom: 7}, false},
		{2, impl.Frac{Top: 1, Bottom: 512}, impl.Frac{Top: 5, Bottom: 8}, true},
		{3, impl.Frac{Top: 1, Bottom: 2}, zeroFrac, false},
		{16, impl.Frac{Top: 5, Bottom: 8}, impl.Frac{Top: 1, Bottom: 512}, true},
		// Long rounds.
		{10, impl.Frac{Top: 1, Bottom: 983}, impl.Frac{Top: 982, Bottom: 983}, true},
		{10, impl.Frac{Top: 1, Bottom: 997}, impl.Frac{Top: 997 - 10, Bottom: 997}, true},
		{10, impl.Frac{Top: 1, Bottom: 997}, impl.Frac{Top: 7, Bottom: 997}, false},
	} {
		if got := checkSame(t, x.b, x.f, x.g); got != x.want {
			t.Errorf("RestSame(%d, %v, %v) is %v", x.b, x.f, x.g, got)
		}
	}
}

// roundsOf returns the rounds of tops by the products of tops and powers of the base, or none where the document rules them out.
func roundsOf(b, n int) [][]int {
	if n < 2 || n > bottomMax || divisor(b, n) != 1 {
		return nil
	}
	powers := []int{1}
	for power := b % n; power != 1; power = power * b % n {
		powers = append(powers, power)
	}
	var rounds [][]int
	told := make([]bool, n)
	for top := 1; top < n; top++ {
		if told[top] || divisor(top, n) != 1 {
			continue
		}
		var tops []int
		for _, power := range powers {
			tops = append(tops, top*power%n)
			told[top*power%n] = true
		}
		rounds = append(rounds, tops)
	}
	return rounds
}

// checkRounds compares RestRounds and RestMany with the rounds of a base and a bottom.
func checkRounds(t *testing.T, b, n int) {
	t.Helper()
	want := roundsOf(b, n)
	rounds, ok := impl.RestRounds(b, n)
	if ok != (want != nil) || !slices.EqualFunc(rounds, want, slices.Equal) {
		t.Fatalf("RestRounds(%d, %d) = %v, %v, not %v", b, n, rounds, ok, want)
	}
	wantLength := 0
	if want != nil {
		wantLength = len(want[0])
	}
	many, length, ok := impl.RestMany(b, n)
	if ok != (want != nil) || many != len(want) || length != wantLength {
		t.Fatalf("RestMany(%d, %d) = %d, %d, %v, not %d, %d", b, n, many, length, ok, len(want), wantLength)
	}
}

// TestRestRounds checks all bases and bottoms, and what is just outside of them.
func TestRestRounds(t *testing.T) {
	for b := leastBase; b <= greatestBase; b++ {
		for n := -2; n <= bottomMax+2; n++ {
			checkRounds(t, b, n)
		}
	}
}

// TestRestRoundsTold checks rounds worked out by hand.
func TestRestRoundsTold(t *testing.T) {
	for _, x := range []struct {
		b, n int
		want [][]int
	}{
		{3, 2, [][]int{{1}}},
		{2, 3, [][]int{{1, 2}}},
		{2, 7, [][]int{{1, 2, 4}, {3, 6, 5}}},
		{2, 9, [][]int{{1, 2, 4, 8, 7, 5}}},
		{2, 15, [][]int{{1, 2, 4, 8}, {7, 14, 13, 11}}},
		{10, 3, [][]int{{1}, {2}}},
		{10, 7, [][]int{{1, 3, 2, 6, 4, 5}}},
		{10, 9, [][]int{{1}, {2}, {4}, {5}, {7}, {8}}},
		{10, 13, [][]int{{1, 10, 9, 12, 3, 4}, {2, 7, 5, 11, 6, 8}}},
		{10, 21, [][]int{{1, 10, 16, 13, 4, 19}, {2, 20, 11, 5, 8, 17}}},
		{16, 15, [][]int{{1}, {2}, {4}, {7}, {8}, {11}, {13}, {14}}},
		{16, 17, [][]int{{1, 16}, {2, 15}, {3, 14}, {4, 13}, {5, 12}, {6, 11}, {7, 10}, {8, 9}}},
	} {
		rounds, ok := impl.RestRounds(x.b, x.n)
		if !ok || !slices.EqualFunc(rounds, x.want, slices.Equal) {
			t.Errorf("RestRounds(%d, %d) = %v, %v, not %v", x.b, x.n, rounds, ok, x.want)
		}
	}
}

func TestRestManyTold(t *testing.T) {
	for _, x := range []struct {
		b, n, many, length int
		ok                 bool
	}{
		{3, 2, 1, 1, true},
		{2, 2, 0, 0, false},
		{10, 1, 0, 0, false},
		{10, 13, 2, 6, true},
		{10, 12, 0, 0, false},
		{10, 983, 1, 982, true},
		{10, 997, 6, 166, true},
		{10, 999, 216, 3, true},
		{10, 1000, 0, 0, false},
		{2, 999, 18, 36, true},
		{2, 1000, 0, 0, false},
		{3, 1000, 4, 100, true},
		{3, 1001, 0, 0, false},
		{7, 1000, 20, 20, true},
		{16, 1000, 0, 0, false},
		{16, 17, 8, 2, true},
		{16, 1001, 0, 0, false},
	} {
		many, length, ok := impl.RestMany(x.b, x.n)
		if ok != x.ok || many != x.many || length != x.length {
			t.Errorf("RestMany(%d, %d) = %d, %d, %v, not %d, %d, %v", x.b, x.n, many, length, ok, x.many, x.length, x.ok)
		}
	}
}
