package tests

import (
	"fmt"
	"math/big"
	"slices"
	"strings"
	"testing"

	"loop.example/fractionrounds/impl"
)

const (
	greatestTop   = 10000
	greatestRight = 200 // digits of RightDigits, and tops of RightTops
	greatestRest  = 4   // digits of RightRest
	firstTops     = 20  // those ahead of the ones that promise 57 looks at
)

// toldRight are values with the beginnings and the rounds of their right digits, the last digit ahead.
var toldRight = []struct {
	b, top, bottom int
	begin, round   string
}{
	// The bottom 1: a number itself, with 0 or, if it is negative, greatest digits in front.
	{2, 0, 1, "", "0"},
	{10, 0, 1, "", "0"},
	{16, 0, 1, "", "0"},
	{2, 1, 1, "1", "0"},
	{10, 1, 1, "1", "0"},
	{16, 1, 1, "1", "0"},
	{2, -1, 1, "", "1"},
	{10, -1, 1, "", "9"},
	{16, -1, 1, "", "f"},
	{10, 5, 1, "5", "0"},
	{10, -5, 1, "5", "9"},
	{10, 9, 1, "9", "0"},
	{10, 10, 1, "01", "0"},
	{10, -9, 1, "1", "9"},
	{10, -10, 1, "0", "9"},
	{10, -11, 1, "98", "9"},
	{10, 120, 1, "021", "0"},
	{10, -120, 1, "088", "9"},
	{3, 2, 1, "2", "0"},
	{3, -2, 1, "1", "2"},
	{2, 6, 1, "011", "0"},
	{2, -6, 1, "010", "1"},
	{16, 15, 1, "f", "0"},
	{16, 16, 1, "01", "0"},
	{16, -16, 1, "0", "f"},
	{16, -17, 1, "fe", "f"},
	{16, 255, 1, "ff", "0"},
	{2, 10000, 1, "00001000111001", "0"},
	{2, -10000, 1, "00001111000110", "1"},
	{2, 8191, 1, "1111111111111", "0"},
	{2, 8192, 1, "00000000000001", "0"},
	{2, -8192, 1, "0000000000000", "1"},
	{2, -8193, 1, "11111111111110", "1"},
	{3, 10000, 1, "101102111", "0"},
	{3, -10000, 1, "221120111", "2"},
	{7, 10000, 1, "40114", "0"},
	{10, 9999, 1, "9999", "0"},
	{10, 10000, 1, "00001", "0"},
	{10, -9999, 1, "1000", "9"},
	{10, -10000, 1, "0000", "9"},
	{16, 10000, 1, "0172", "0"},
	{16, -10000, 1, "0f8d", "f"},
	{16, -4096, 1, "000", "f"},
	// Whole numbers over other bottoms.
	{10, 0, 7, "", "0"},
	{10, 14, 7, "2", "0"},
	{10, -14, 7, "8", "9"},
	{10, -7, 7, "", "9"},
	{10, 7, 7, "1", "0"},
	{10, 9999, 9, "1111", "0"},
	{10, -9999, 9, "9888", "9"},
	{10, 9990, 999, "01", "0"},
	{10, -9990, 999, "0", "9"},
	{2, 0, 999, "", "0"},
	{2, -999, 999, "", "1"},
	{2, 999, 999, "1", "0"},
	{2, 9990, 999, "0101", "0"},
	{2, -9990, 999, "0110", "1"},
	{3, 10000, 1000, "101", "0"},
	{3, -10000, 1000, "221", "2"},
	{3, -1000, 1000, "", "2"},
	{3, 0, 1000, "", "0"},
	{16, -15, 15, "", "f"},
	{16, 240, 15, "01", "0"},
	{16, -255, 255, "", "f"},
	// Without a beginning.
	{10, -1, 7, "", "758241"},
	{10, -6, 7, "", "241758"},
	{10, -1, 3, "", "3"},
	{10, -2, 3, "", "6"},
	{10, -1, 9, "", "1"},
	{10, -8, 9, "", "8"},
	{10, -1, 11, "", "90"},
	{10, -1, 13, "", "329670"},
	{10, -5, 27, "", "581"},
	{2, -1, 3, "", "10"},
	{2, -2, 3, "", "01"},
	{2, -1, 5, "", "1100"},
	{2, -1, 7, "", "100"},
	{2, -3, 31, "", "11000"},
	{16, -1, 3, "", "5"},
	{16, -1, 5, "", "3"},
	{16, -1, 7, "", "942"},
	{16, -4, 5, "", "c"},
	{16, -1, 17, "", "f0"},
	{16, -16, 17, "", "0f"},
	{16, -1, 255, "", "10"},
	{3, -1, 2, "", "1"},
	{7, -1, 2, "", "3"},
	{15, -7, 13, "", "b5acd6394218"},
	// With a beginning of a few digits.
	{10, 1, 7, "3", "417582"},
	{10, 1, 3, "7", "6"},
	{10, 2, 3, "4", "3"},
	{10, -4, 3, "2", "3"},
	{10, 1, 9, "9", "8"},
	{10, -8, 7, "6", "582417"},
	{10, 8, 7, "4", "417582"},
	{10, 100, 7, "003", "417582"},
	{10, -100, 7, "00", "758241"},
	{10, 1, 11, "1", "90"},
	{10, 1, 27, "3", "692"},
	{2, 1, 3, "1", "10"},
	{2, 2, 3, "01", "10"},
	{2, 4, 3, "001", "10"},
	{2, -4, 3, "0", "01"},
	{2, 1, 5, "1", "0110"},
	{2, 1, 7, "1", "110"},
	{2, -9, 7, "10", "001"},
	{3, 1, 2, "2", "1"},
	{3, -3, 2, "0", "1"},
	{7, 5, 2, "6", "3"},
	{16, 1, 3, "b", "a"},
	{16, 2, 3, "6", "5"},
	{16, 1, 15, "f", "e"},
	{16, 14, 15, "2", "1"},
	{16, 16, 15, "0f", "e"},
	{16, -16, 15, "0", "1"},
	{16, -31, 15, "f0", "1"},
	{16, 1, 17, "1", "f0"},
	{16, 273, 17, "101", "f0"},
	// Tops and bottoms with a common divisor.
	{10, 2, 21, "2", "674091"},
	{10, 3, 9, "7", "6"},
	{10, -3, 9, "", "3"},
	{10, 6, 9, "4", "3"},
	{10, -6, 21, "", "417582"},
	{10, 15, 21, "5", "175824"},
	{10, -70, 91, "", "032967"},
	{2, 9, 15, "1", "1100"},
	{2, -9, 15, "", "1001"},
	{2, -6, 15, "", "0110"},
	{16, 6, 9, "6", "5"},
	{16, -10, 15, "", "a"},
	{3, 2, 4, "2", "1"},
	{3, -2, 4, "", "1"},
	{3, 500, 1000, "2", "1"},
	{3, -500, 1000, "", "1"},
	{3, -250, 1000, "", "20"},
	{10, 333, 999, "7", "6"},
	{10, -333, 999, "", "3"},
	{10, -27, 999, "", "720"},
	{10, 27, 999, "3", "792"},
	{16, -996, 999, "", "48f13b3ff"},
	// Tops that the base divides.
	{10, 10, 7, "03", "417582"},
	{10, -10, 7, "0", "758241"},
	{10, 1000, 3, "0007", "6"},
	{10, -1000, 3, "000", "3"},
	{10, 10000, 9, "00009", "8"},
	{10, -10000, 9, "0000", "1"},
	{2, 8, 3, "0001", "10"},
	{2, -8, 3, "00", "01"},
	{2, 8192, 3, "00000000000001", "10"},
	{2, -8192, 3, "000000000000", "01"},
	{16, 16, 7, "07", "bd6"},
	{16, -16, 7, "0", "942"},
	{16, -4096, 17, "00", "0f"},
	{16, 4096, 17, "0001", "f0"},
	// The greatest bottoms, and the greatest and least tops.
	{3, -100, 1000, "", "2200"},
	{7, 1, 1000, "6", "35201451521321446665"},
	{7, -7, 1000, "", "01314652151453452200"},
	{7, -1, 1000, "", "13146521514534522000"},
	{9, -125, 1000, "", "1"},
	{10, 10000, 999, "00009", "998"},
	{10, -10000, 999, "00", "001"},
	{10, 1, 999, "9", "998"},
	{10, -1, 999, "", "100"},
	{10, -998, 999, "", "899"},
	{10, 998, 999, "2", "001"},
	{16, -1, 999, "", "920a91400"},
	{16, 1, 999, "7", "df56ebff6"},
	{2, -37, 999, "", "101101111010010000"},
	{2, -111, 999, "", "111000"},
	{10, 10000, 3, "00007", "6"},
	{10, 10000, 7, "00003", "417582"},
	{10, -10000, 7, "0000", "758241"},
	{10, 10000, 27, "00003", "692"},
	{10, -10000, 37, "000", "072"},
	{2, 10000, 3, "0000110111101", "10"},
	{2, -10000, 3, "0000101000010", "01"},
	{2, 10000, 7, "000011100011", "110"},
	{2, -10000, 7, "000010011100", "001"},
	{16, 10000, 7, "07c", "bd6"},
	{16, -10000, 7, "093", "429"},
	{16, 10000, 17, "016", "c3"},
	{16, -10000, 17, "0f9", "3c"},
	{3, 10000, 13, "12011201", "220"},
	{3, -10000, 13, "20211021", "002"},
}

// TestRightTold asks for all that is told of these values.
func TestRightTold(t *testing.T) {
	for _, x := range toldRight {
		name := fmt.Sprintf("(%d, %d, %d)", x.b, x.top, x.bottom)
		n, m, ok := impl.RightLengths(x.b, x.top, x.bottom)
		if !ok || n != len(x.begin) || m != len(x.round) {
			t.Errorf("RightLengths%s = %d, %d, %v, not %d, %d, true", name, n, m, ok, len(x.begin), len(x.round))
		}
		all := x.begin + strings.Repeat(x.round, greatestRight)
		for _, k := range []int{0, 1, len(x.begin), len(x.begin) + len(x.round), 199, 200} {
			if text := textOf(rightDigits(t, x.b, x.top, x.bottom, k)); text != all[:k] {
				t.Errorf("RightDigits of %s and %d are %s, not %s", name, k, text, all[:k])
			}
		}
		for k := range greatestRest + 1 {
			want := 0
			for place := k - 1; place >= 0; place-- {
				want = want*x.b + strings.IndexByte("0123456789abcdef", all[place])
			}
			if rest := rightRest(t, x.b, x.top, x.bottom, k); rest != want {
				t.Errorf("RightRest of %s and %d = %d, not %d", name, k, rest, want)
			}
		}
		if whole := x.round == "0" || x.round == textOf([]int{x.b - 1}); impl.RightWhole(x.b, x.top, x.bottom) != whole {
			t.Errorf("RightWhole%s is %v", name, !whole)
		}
		if f := (impl.Frac{Top: -x.top, Bottom: x.bottom}); impl.FracIn(f) {
			if text := textOf(rightNegative(t, x.b, f)); text != x.round || x.begin != "" {
				t.Errorf("RightNegative(%d, %v) is %s, not %s", x.b, f, text, x.round)
			}
		}
	}
}

// TestRightTopsTold tells tops on the way, and how they go on.
func TestRightTopsTold(t *testing.T) {
	for _, x := range []struct {
		b, top, bottom int
		tops           []int
		next           int // the place in this list that comes behind it
	}{
		{2, 0, 1, []int{0}, 0},
		{10, 0, 1, []int{0}, 0},
		{16, 0, 1, []int{0}, 0},
		{2, -1, 1, []int{-1}, 0},
		{10, -1, 1, []int{-1}, 0},
		{16, -1, 1, []int{-1}, 0},
		{10, 1, 1, []int{1, 0}, 1},
		{10, 10000, 1, []int{10000, 1000, 100, 10, 1, 0}, 5},
		{10, -10000, 1, []int{-10000, -1000, -100, -10, -1}, 4},
		{10, -9999, 1, []int{-9999, -1000, -100, -10, -1}, 4},
		{2, 10000, 1, []int{10000, 5000, 2500, 1250, 625, 312, 156, 78, 39, 19, 9, 4, 2, 1, 0}, 14},
		{2, -10000, 1, []int{-10000, -5000, -2500, -1250, -625, -313, -157, -79, -40, -20, -10, -5, -3, -2, -1}, 14},
		{16, -10000, 1, []int{-10000, -625, -40, -3, -1}, 4},
		{10, -1, 7, []int{-1, -5, -4, -6, -2, -3}, 0},
		{10, 1, 7, []int{1, -2, -3, -1, -5, -4, -6}, 1},
		{10, 14, 7, []int{14, 0}, 1},
		{10, -14, 7, []int{-14, -7}, 1},
		{10, 10, 7, []int{10, 1, -2, -3, -1, -5, -4, -6}, 2},
		{10, -10, 7, []int{-10, -1, -5, -4, -6, -2, -3}, 1},
		{10, 1, 3, []int{1, -2}, 1},
		{10, 3, 9, []int{3, -6}, 1},
		{10, -6, 21, []int{-6, -9, -3, -15, -12, -18}, 0},
		{2, 1, 3, []int{1, -1, -2}, 1},
		{2, -8, 3, []int{-8, -4, -2, -1}, 2},
		{3, -500, 1000, []int{-500}, 0},
		{3, 500, 1000, []int{500, -500}, 1},
		{16, -1, 17, []int{-1, -16}, 0},
		{16, 1, 15, []int{1, -14}, 1},
		{16, 4096, 17, []int{4096, 256, 16, 1, -1, -16}, 4},
	} {
		want := slices.Clone(x.tops)
		for place := x.next; len(want) < greatestRight; place++ {
			want = append(want, want[place])
		}
		for _, k := range []int{0, 1, 2, len(x.tops), 199, 200} {
			got, ok := impl.RightTops(x.b, x.top, x.bottom, k)
			wantList(t, fmt.Sprintf("RightTops(%d, %d, %d, %d)", x.b, x.top, x.bottom, k), got, ok, want[:k])
		}
	}
}

// rightDigits and the others here are for arguments for which the functions must succeed.
func rightDigits(t *testing.T, b, top, bottom, k int) []int {
	t.Helper()
	digits, ok := impl.RightDigits(b, top, bottom, k)
	if !ok || len(digits) != k {
		t.Fatalf("RightDigits(%d, %d, %d, %d) = %v, %v", b, top, bottom, k, digits, ok)
	}
	return digits
}

func rightTops(t *testing.T, b, top, bottom, k int) []int {
	t.Helper()
	list, ok := impl.RightTops(b, top, bottom, k)
	if !ok || len(list) != k {
		t.Fatalf("RightTops(%d, %d, %d, %d) = %v, %v", b, top, bottom, k, list, ok)
	}
	return list
}

func rightLengths(t *testing.T, b, top, bottom int) (int, int) {
	t.Helper()
	n, m, ok := impl.RightLengths(b, top, bottom)
	if !ok || n < 0 || m < 1 {
		t.Fatalf("RightLengths(%d, %d, %d) = %d, %d, %v", b, top, bottom, n, m, ok)
	}
	return n, m
}

func rightRest(t *testing.T, b, top, bottom, k int) int {
	t.Helper()
	rest, ok := impl.RightRest(b, top, bottom, k)
	if !ok {
		t.Fatalf("RightRest(%d, %d, %d, %d) fails", b, top, bottom, k)
	}
	return rest
}

func rightNegative(t *testing.T, b int, f impl.Frac) []int {
	t.Helper()
	digits, ok := impl.RightNegative(b, f)
	if !ok || len(digits) == 0 {
		t.Fatalf("RightNegative(%d, %v) = %v, %v", b, f, digits, ok)
	}
	return digits
}

// rightWay returns the right digits and the tops of a value up to the first top that comes again, and the place of this one.
func rightWay(b, top, bottom int) (digits, list []int, next int) {
	for {
		if place := slices.Index(list, top); place >= 0 {
			return digits, list, place
		}
		list = append(list, top)
		digit := 0
		for (top-digit*bottom)%b != 0 {
			digit++
		}
		digits = append(digits, digit)
		top = (top - digit*bottom) / b
	}
}

// eachRight calls a test for all bases, small bottoms, some others up to the greatest two, and some tops: for small bottoms all those about 0, and for each one the greatest and least ones and those about the bottom.
func eachRight(check func(b, top, bottom int)) {
	for b := leastBase; b <= greatestBase; b++ {
		for bottom := 1; bottom <= bottomMax; bottom++ {
			if divisor(b, bottom) != 1 || bottom > 48 && bottom%7 < 5 {
				continue
			}
			list := []int{-greatestTop, -bottom - 1, -bottom, 1 - bottom, -1, 0, 1, bottom, bottom + 1, b * (1000 - bottom) / 2, greatestTop}
			if bottom <= 24 {
				list = append(list, 1-greatestTop, greatestTop-1, bottom*(greatestTop/bottom), -bottom*(greatestTop/bottom))
				for top := -60; top <= 60; top++ {
					list = append(list, top)
				}
			}
			for _, top := range list {
				check(b, top, bottom)
			}
		}
	}
}

// TestP54 checks that right digits are digits, tell the tops beside them, and lead back to the value by a number of 200 digits.
func TestP54(t *testing.T) {
	eachRight(func(b, top, bottom int) {
		digits := rightDigits(t, b, top, bottom, greatestRight)
		list := rightTops(t, b, top, bottom, greatestRight)
		for place, digit := range digits {
			if digit < 0 || digit >= b {
				t.Fatalf("RightDigits(%d, %d, %d) has %d at %d", b, top, bottom, digit, place)
			}
			if place+1 < len(list) && digit*bottom != list[place]-b*list[place+1] {
				t.Fatalf("RightDigits(%d, %d, %d) has %d at %d, but the tops are %v", b, top, bottom, digit, place, list)
			}
		}
		for _, k := range []int{0, 1, 2, 199} {
			if got := rightDigits(t, b, top, bottom, k); !slices.Equal(got, digits[:k]) {
				t.Fatalf("RightDigits(%d, %d, %d, %d) = %v, not %v", b, top, bottom, k, got, digits[:k])
			}
		}
		slices.Reverse(digits)
		left := bigOf(b, digits)
		left.Sub(left.Mul(left, big.NewInt(int64(bottom))), big.NewInt(int64(top)))
		weight := new(big.Int).Exp(big.NewInt(int64(b)), big.NewInt(greatestRight), nil)
		if left.Rem(left, weight).Sign() != 0 {
			t.Fatalf("RightDigits(%d, %d, %d) are %v from the left, which leave %v", b, top, bottom, digits, left)
		}
	})
}

// checkShortest checks that a list of right digits begins with a beginning of n digits and a round of m, and has none as short.
func checkShortest(t *testing.T, name string, digits []int, n, m int) {
	t.Helper()
	if !slices.Equal(digits[n:len(digits)-m], digits[n+m:]) {
		t.Fatalf("%s: %v have no beginning of %d digits and a round of %d", name, digits, n, m)
	}
	if n > 0 && digits[n-1] == digits[n-1+m] {
		t.Fatalf("%s: %v have a beginning of less digits than %d", name, digits, n)
	}
	for less := 1; less < m; less++ {
		if m%less == 0 && slices.Equal(digits[n:n+m-less], digits[n+less:n+m]) {
			t.Fatalf("%s: %v have a round of %d digits, less than %d", name, digits, less, m)
		}
	}
}

// TestP55 compares RightLengths with the tops that come again, and with the right digits themselves.
func TestP55(t *testing.T) {
	seen, without, longest := 0, 0, map[int]int{}
	eachRight(func(b, top, bottom int) {
		n, m := rightLengths(t, b, top, bottom)
		longest[b] = max(longest[b], n)
		if n == 0 {
			without++
		}
		name := fmt.Sprintf("(%d, %d, %d)", b, top, bottom)
		if n+2*m <= greatestRight {
			seen++
			checkShortest(t, name, rightDigits(t, b, top, bottom, greatestRight), n, m)
		}
		if bottom <= 24 || bottom%10 == 3 {
			way, _, next := rightWay(b, top, bottom)
			if n != next || m != len(way)-next {
				t.Fatalf("RightLengths%s = %d, %d, not %d, %d", name, n, m, next, len(way)-next)
			}
		}
	})
	if seen < 10000 || without < 10000 || longest[2] != 14 || longest[10] != 5 || longest[16] != 4 {
		t.Fatalf("%d right digits were seen, %d have no beginning, and the longest beginnings are %v", seen, without, longest)
	}
}

// TestP56 checks that the length of the round divides the order, and is that for the bottom without what the top has in common with it.
func TestP56(t *testing.T) {
	ofBottom := func(b, bottom int) int {
		if bottom == 1 {
			return 1
		}
		return order(t, b, bottom)
	}
	shorter := 0
	eachRight(func(b, top, bottom int) {
		_, m := rightLengths(t, b, top, bottom)
		all, want := ofBottom(b, bottom), ofBottom(b, bottom/divisor(max(top, -top), bottom))
		if all%m != 0 || m != want {
			t.Fatalf("RightLengths(%d, %d, %d) tells a round of %d digits, but the orders are %d and %d", b, top, bottom, m, all, want)
		}
		if m < all {
			shorter++
		}
	})
	if shorter < 1000 {
		t.Fatalf("%d rounds are shorter than the order", shorter)
	}
}

// TestP57 compares RightTops with the definition, and looks where the tops lead.
func TestP57(t *testing.T) {
	eachRight(func(b, top, bottom int) {
		list := rightTops(t, b, top, bottom, greatestRight)
		if list[0] != top {
			t.Fatalf("RightTops(%d, %d, %d) begins with %d", b, top, bottom, list[0])
		}
		for place, got := range list[firstTops:] {
			if got < -bottom || got >= bottom {
				t.Fatalf("RightTops(%d, %d, %d) has %d at %d", b, top, bottom, got, place+firstTops)
			}
		}
		if bottom <= 24 || bottom%10 == 7 {
			_, want, next := rightWay(b, top, bottom)
			for place := next; len(want) < greatestRight; place++ {
				want = append(want, want[place])
			}
			wantList(t, fmt.Sprintf("RightTops(%d, %d, %d)", b, top, bottom), list, true, want[:greatestRight])
		}
		for _, k := range []int{0, 1, 2, 199} {
			if got := rightTops(t, b, top, bottom, k); !slices.Equal(got, list[:k]) {
				t.Fatalf("RightTops(%d, %d, %d, %d) = %v, not %v", b, top, bottom, k, got, list[:k])
			}
		}
	})
}

// TestP58 checks that RightRest is the one number below the power that the bottom leads to the rest of the top.
func TestP58(t *testing.T) {
	eachRight(func(b, top, bottom int) {
		digits := rightDigits(t, b, top, bottom, greatestRest)
		weight, want := 1, 0
		for k := range greatestRest + 1 {
			rest := rightRest(t, b, top, bottom, k)
			if rest < 0 || rest >= weight || (rest*bottom-top)%weight != 0 || rest != want {
				t.Fatalf("RightRest(%d, %d, %d, %d) = %d, not %d", b, top, bottom, k, rest, want)
			}
			if k < greatestRest {
				want += weight * digits[k]
				weight *= b
			}
		}
	})
}

// TestP59 compares RightNegative with the round of the fraction, and with the right digits of the value.
func TestP59(t *testing.T) {
	succeeded, failed := 0, 0
	eachSome(func(b int, f impl.Frac) {
		if divisor(b, f.Bottom) != 1 {
			failed++
			got, ok := impl.RightNegative(b, f)
			wantNoList(t, fmt.Sprintf("RightNegative(%d, %v)", b, f), got, ok)
			return
		}
		succeeded++
		_, want := longDivision(b, f)
		slices.Reverse(want)
		got := rightNegative(t, b, f)
		if !slices.Equal(got, want) {
			t.Fatalf("RightNegative(%d, %v) = %v, not %v", b, f, got, want)
		}
		slices.Reverse(want)
		if !slices.Equal(want, round(t, b, f)) {
			t.Fatalf("FracRound(%d, %v) is not %v", b, f, want)
		}
		if n, m := rightLengths(t, b, -f.Top, f.Bottom); n != 0 || m != len(got) {
			t.Fatalf("RightLengths(%d, %d, %d) = %d, %d, but RightNegative is %v", b, -f.Top, f.Bottom, n, m, got)
		}
		k := min(len(got), greatestRight)
		if digits := rightDigits(t, b, -f.Top, f.Bottom, k); !slices.Equal(digits, got[:k]) {
			t.Fatalf("RightDigits(%d, %d, %d, %d) = %v, but RightNegative is %v", b, -f.Top, f.Bottom, k, digits, got)
		}
	})
	if succeeded < 10000 || failed < 10000 {
		t.Fatalf("RightNegative succeeded %d times and failed %d times", succeeded, failed)
	}
}

// TestP60 checks RightWhole by division, and by the digit of rounds of one digit.
func TestP60(t *testing.T) {
	whole, others := 0, 0
	eachRight(func(b, top, bottom int) {
		got := impl.RightWhole(b, top, bottom)
		if want := top%bottom == 0; got != want {
			t.Fatalf("RightWhole(%d, %d, %d) = %v", b, top, bottom, got)
		}
		n, m := rightLengths(t, b, top, bottom)
		last := rightDigits(t, b, top, bottom, n+1)[n]
		if alone := m == 1 && (last == 0 || last == b-1); got != alone {
			t.Fatalf("RightWhole(%d, %d, %d) = %v, but the round has %d digits and begins with %d", b, top, bottom, got, m, last)
		}
		if got {
			whole++
		} else if m == 1 {
			others++
		}
	})
	if whole < 1000 || others < 1000 {
		t.Fatalf("%d values are whole, and %d others have rounds of one digit", whole, others)
	}
}

// TestRightAllTops asks for all tops over a few bottoms, whole ones by their own digits.
func TestRightAllTops(t *testing.T) {
	for _, x := range [][2]int{{2, 1}, {10, 1}, {16, 1}, {10, 3}, {3, 1000}} {
		b, bottom := x[0], x[1]
		for top := -greatestTop; top <= greatestTop; top++ {
			n, m := rightLengths(t, b, top, bottom)
			if whole := impl.RightWhole(b, top, bottom); whole != (top%bottom == 0) {
				t.Fatalf("RightWhole(%d, %d, %d) = %v", b, top, bottom, whole)
			}
			if top%bottom == 0 {
				wantWhole(t, b, top, bottom, n, m)
			}
			rest := rightRest(t, b, top, bottom, greatestRest)
			weight := b * b * b * b
			if rest < 0 || rest >= weight || (rest*bottom-top)%weight != 0 {
				t.Fatalf("RightRest(%d, %d, %d, 4) = %d", b, top, bottom, rest)
			}
		}
	}
}

// wantWhole checks the lengths of the right digits of a whole number, and the digits ahead of the round.
func wantWhole(t *testing.T, b, top, bottom, n, m int) {
	t.Helper()
	left, want := top/bottom, []int{}
	for left != 0 && left != -1 {
		digit := (left%b + b) % b
		want = append(want, digit)
		left = (left - digit) / b
	}
	if n != len(want) || m != 1 {
		t.Fatalf("RightLengths(%d, %d, %d) = %d, %d, not %d, 1", b, top, bottom, n, m, len(want))
	}
	want = append(want, (b-1)*-left)
	if got := rightDigits(t, b, top, bottom, n+1); !slices.Equal(got, want) {
		t.Fatalf("RightDigits(%d, %d, %d) = %v, not %v", b, top, bottom, got, want)
	}
}

// TestRightBehind checks that from the second one on the right digits are those of the value with the second top.
func TestRightBehind(t *testing.T) {
	eachRight(func(b, top, bottom int) {
		if bottom > 24 && bottom%10 != 9 {
			return
		}
		second := rightTops(t, b, top, bottom, 2)[1]
		digits, behind := rightDigits(t, b, top, bottom, greatestRight), rightDigits(t, b, second, bottom, greatestRight-1)
		if !slices.Equal(digits[1:], behind) {
			t.Fatalf("RightDigits(%d, %d, %d) are %v, but behind the first one %v", b, top, bottom, digits, behind)
		}
	})
}

// TestRightLowest checks that a common divisor of top and bottom changes neither digits nor lengths.
func TestRightLowest(t *testing.T) {
	seen := 0
	eachRight(func(b, top, bottom int) {
		common := divisor(max(top, -top), bottom)
		if common == 1 {
			return
		}
		seen++
		n, m := rightLengths(t, b, top, bottom)
		if n2, m2 := rightLengths(t, b, top/common, bottom/common); n != n2 || m != m2 {
			t.Fatalf("RightLengths(%d, %d, %d) = %d, %d, but in lowest terms %d, %d", b, top, bottom, n, m, n2, m2)
		}
		digits, lowest := rightDigits(t, b, top, bottom, 60), rightDigits(t, b, top/common, bottom/common, 60)
		if !slices.Equal(digits, lowest) {
			t.Fatalf("RightDigits(%d, %d, %d) are %v, but in lowest terms %v", b, top, bottom, digits, lowest)
		}
	})
	if seen < 10000 {
		t.Fatalf("%d values have a common divisor", seen)
	}
}
