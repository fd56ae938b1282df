package tests

import (
	"fmt"
	"math"
	"math/big"
	"slices"
	"testing"

	"loop.example/fractionrounds/impl"
)

// told are fractions with the digits of their beginnings and rounds, worked out by hand.
var told = []struct {
	b     int
	f     impl.Frac
	begin []int
	round []int
}{
	{2, impl.Frac{Top: 0, Bottom: 1}, nil, []int{0}},
	{2, impl.Frac{Top: 1, Bottom: 2}, []int{1}, []int{0}},
	{2, impl.Frac{Top: 1, Bottom: 3}, nil, []int{0, 1}},
	{2, impl.Frac{Top: 2, Bottom: 3}, nil, []int{1, 0}},
	{2, impl.Frac{Top: 5, Bottom: 8}, []int{1, 0, 1}, []int{0}},
	{2, impl.Frac{Top: 1, Bottom: 10}, []int{0}, []int{0, 0, 1, 1}},
	{2, impl.Frac{Top: 1, Bottom: 512}, []int{0, 0, 0, 0, 0, 0, 0, 0, 1}, []int{0}},
	{3, impl.Frac{Top: 1, Bottom: 2}, nil, []int{1}},
	{8, impl.Frac{Top: 6, Bottom: 7}, nil, []int{6}},
	{10, impl.Frac{Top: 0, Bottom: 1}, nil, []int{0}},
	{10, impl.Frac{Top: 1, Bottom: 2}, []int{5}, []int{0}},
	{10, impl.Frac{Top: 1, Bottom: 6}, []int{1}, []int{6}},
	{10, impl.Frac{Top: 1, Bottom: 7}, nil, []int{1, 4, 2, 8, 5, 7}},
	{10, impl.Frac{Top: 8, Bottom: 9}, nil, []int{8}},
	{10, impl.Frac{Top: 1, Bottom: 12}, []int{0, 8}, []int{3}},
	{10, impl.Frac{Top: 3, Bottom: 14}, []int{2}, []int{1, 4, 2, 8, 5, 7}},
	{10, impl.Frac{Top: 1, Bottom: 81}, nil, []int{0, 1, 2, 3, 4, 5, 6, 7, 9}},
	{10, impl.Frac{Top: 1, Bottom: 1000}, []int{0, 0, 1}, []int{0}},
	{10, impl.Frac{Top: 999, Bottom: 1000}, []int{9, 9, 9}, []int{0}},
	{10, impl.Frac{Top: 998, Bottom: 999}, nil, []int{9, 9, 8}},
	{12, impl.Frac{Top: 1, Bottom: 5}, nil, []int{2, 4, 9, 7}},
	{16, impl.Frac{Top: 0, Bottom: 1}, nil, []int{0}},
	{16, impl.Frac{Top: 5, Bottom: 8}, []int{10}, []int{0}},
	{16, impl.Frac{Top: 1, Bottom: 10}, []int{1}, []int{9}},
	{16, impl.Frac{Top: 14, Bottom: 15}, nil, []int{14}},
	{16, impl.Frac{Top: 16, Bottom: 17}, nil, []int{15, 0}},
	{16, impl.Frac{Top: 1, Bottom: 512}, []int{0, 0, 8}, []int{0}},
}

func TestDigitsTold(t *testing.T) {
	for _, x := range told {
		name := fmt.Sprintf("of %v in base %d", x.f, x.b)
		wantList(t, "FracBegin "+name, begin(t, x.b, x.f), true, x.begin)
		wantList(t, "FracRound "+name, round(t, x.b, x.f), true, x.round)
		n, m := lengths(t, x.b, x.f)
		if n != len(x.begin) || m != len(x.round) {
			t.Errorf("FracLengths %s returned %d and %d", name, n, m)
		}
		ends := len(x.round) == 1 && x.round[0] == 0
		if impl.FracEnds(x.b, x.f) != ends {
			t.Errorf("FracEnds %s is not %v", name, ends)
		}
		want := slices.Clone(x.begin)
		for len(want) < greatestK {
			want = append(want, x.round...)
		}
		for k := range greatestK + 1 {
			got, ok := impl.FracDigits(x.b, x.f, k)
			wantList(t, fmt.Sprintf("FracDigits %s, %d,", name, k), got, ok, want[:k])
		}
	}
}

// TestBeginAndRoundByLongDivision compares both with the rests of long division, which tell the shortest ones.
func TestBeginAndRoundByLongDivision(t *testing.T) {
	eachSome(func(b int, f impl.Frac) {
		wantBegin, wantRound := longDivision(b, f)
		if got := begin(t, b, f); !slices.Equal(got, wantBegin) {
			t.Fatalf("FracBegin(%d, %v) = %v, not %v", b, f, got, wantBegin)
		}
		if got := round(t, b, f); !slices.Equal(got, wantRound) {
			t.Fatalf("FracRound(%d, %v) = %v, not %v", b, f, got, wantRound)
		}
	})
}

func TestFracIn(t *testing.T) {
	if impl.BottomMax != bottomMax {
		t.Fatalf("BottomMax is %d", impl.BottomMax)
	}
	for bottom := -2; bottom <= bottomMax+2; bottom++ {
		for top := -2; top <= bottomMax+2; top++ {
			want := bottom >= 1 && bottom <= bottomMax && top >= 0 && top < bottom && divisor(top, bottom) == 1
			if impl.FracIn(impl.Frac{Top: top, Bottom: bottom}) != want {
				t.Fatalf("FracIn of %d over %d is not %v", top, bottom, want)
			}
		}
	}
	if !impl.FracIn(zeroFrac) {
		t.Error("FracIn of 0 over 1 does not hold")
	}
	for _, f := range wildFracs {
		if impl.FracIn(f) {
			t.Errorf("FracIn(%v) holds", f)
		}
	}
}

// TestP1 checks that both lengths together are at most the bottom.
func TestP1(t *testing.T) {
	if n, m := lengths(t, 2, zeroFrac); n != 0 || m != 1 {
		t.Errorf("the lengths of 0 over 1 are %d and %d", n, m)
	}
	for _, f := range append(someFracs(), fracsOver(997)...) {
		if !impl.FracIn(f) {
			t.Fatalf("FracIn(%v) does not hold", f)
		}
		for _, b := range []int{2, 16} {
			if n, m := lengths(t, b, f); n < 0 || m < 1 || n+m > f.Bottom {
				t.Fatalf("FracLengths(%d, %v) = %d, %d", b, f, n, m)
			}
		}
	}
}

// TestP2 checks that FracDigits, FracDigit and FracBegin tell the same digits.
func TestP2(t *testing.T) {
	eachSome(func(b int, f impl.Frac) {
		k := (f.Top+f.Bottom*b)%12 + 9
		digits, ok := impl.FracDigits(b, f, k)
		if !ok || len(digits) != k {
			t.Fatalf("FracDigits(%d, %v, %d) = %v, %v", b, f, k, digits, ok)
		}
		first := begin(t, b, f)
		for place, digit := range digits {
			if got, ok := impl.FracDigit(b, f, place); !ok || got != digit || digit < 0 || digit >= b {
				t.Fatalf("FracDigit(%d, %v, %d) = %d, %v, not %d", b, f, place, got, ok, digit)
			}
			if place < len(first) && first[place] != digit {
				t.Fatalf("FracBegin(%d, %v) = %v, but the digits are %v", b, f, first, digits)
			}
		}
	})
}

// TestP2Edges checks the least and the greatest number of digits, and one more.
func TestP2Edges(t *testing.T) {
	for _, b := range []int{2, 3, 10, 16} {
		for _, f := range []impl.Frac{zeroFrac, {Top: 1, Bottom: 7}, {Top: 3, Bottom: 512}, {Top: 982, Bottom: 983}, {Top: 1, Bottom: 1000}} {
			none, ok := impl.FracDigits(b, f, 0)
			wantList(t, "FracDigits of no digits", none, ok, nil)
			all, ok := impl.FracDigits(b, f, greatestK)
			if !ok || len(all) != greatestK {
				t.Fatalf("FracDigits(%d, %v, 200) = %v, %v", b, f, all, ok)
			}
			for place, digit := range all {
				if got, ok := impl.FracDigit(b, f, place); !ok || got != digit {
					t.Fatalf("FracDigit(%d, %v, %d) = %d, %v, not %d", b, f, place, got, ok, digit)
				}
			}
			for _, k := range []int{math.MinInt, -200, -1, greatestK + 1, math.MaxInt} {
				got, ok := impl.FracDigits(b, f, k)
				wantNoList(t, fmt.Sprintf("FracDigits(%d, %v, %d)", b, f, k), got, ok)
			}
		}
	}
}

// TestP3 checks that a beginning is not longer than it must be.
func TestP3(t *testing.T) {
	long := 0
	eachSome(func(b int, f impl.Frac) {
		first, again := begin(t, b, f), round(t, b, f)
		if len(first) == 0 {
			return
		}
		long++
		if first[len(first)-1] == again[len(again)-1] {
			t.Fatalf("of %v in base %d, the beginning %v and the round %v end with one digit", f, b, first, again)
		}
	})
	if long == 0 {
		t.Fatal("no beginning has a digit")
	}
}

// TestP4 checks the length of rounds, and that they are not longer than they must be.
func TestP4(t *testing.T) {
	eachSome(func(b int, f impl.Frac) {
		again := round(t, b, f)
		if len(again) >= f.Bottom && len(again) != 1 {
			t.Fatalf("FracRound(%d, %v) has %d digits", b, f, len(again))
		}
		if onlyGreatest(b, again) {
			t.Fatalf("FracRound(%d, %v) = %v", b, f, again)
		}
		for part := 1; part < len(again); part++ {
			if len(again)%part == 0 && slices.Equal(again[part:], again[:len(again)-part]) {
				t.Fatalf("FracRound(%d, %v) = %v is its first %d digits again and again", b, f, again, part)
			}
		}
	})
}

// checkOf compares FracOf with the value of its digits, and checks promise 5.
func checkOf(t *testing.T, b int, first, again []int) {
	t.Helper()
	got, ok := impl.FracOf(b, first, again)
	var want *big.Rat
	if !onlyGreatest(b, again) {
		want = valueOf(b, first, again)
	}
	if want == nil || want.Denom().Cmp(big.NewInt(bottomMax)) > 0 {
		if ok || got != (impl.Frac{}) {
			t.Fatalf("FracOf(%d, %v, %v) = %v, %v, and does not fail", b, first, again, got, ok)
		}
		return
	}
	f := impl.Frac{Top: int(want.Num().Int64()), Bottom: int(want.Denom().Int64())}
	if !ok || got != f {
		t.Fatalf("FracOf(%d, %v, %v) = %v, %v, not %v, true", b, first, again, got, ok, f)
	}
	twice := slices.Concat(first, again, again)
	digits, ok := impl.FracDigits(b, got, len(twice))
	wantList(t, fmt.Sprintf("FracDigits(%d, %v, %d)", b, got, len(twice)), digits, ok, twice)
}

// TestP5 checks FracOf for all short lists, and for more in which just some digits stand.
func TestP5(t *testing.T) {
	for _, x := range []struct {
		b, most int
		digits  []int
	}{
		{2, 5, digitsBelow(2)}, {3, 5, digitsBelow(3)}, {4, 5, digitsBelow(4)}, {7, 3, digitsBelow(7)},
		{10, 3, digitsBelow(10)}, {10, 5, []int{0, 1, 5, 9}}, {12, 5, []int{0, 4, 11}},
		{16, 2, digitsBelow(16)}, {16, 5, []int{0, 1, 8, 15}},
	} {
		for length := 1; length <= x.most; length++ {
			eachList(length, x.digits, func(list []int) {
				for n := range length {
					checkOf(t, x.b, list[:n], list[n:])
				}
			})
		}
	}
}

func TestP5Edges(t *testing.T) {
	for _, x := range []struct {
		b     int
		begin []int
		round []int
		want  impl.Frac
		ok    bool
	}{
		// Beginnings and rounds that are longer than those of the fraction.
		{10, nil, []int{0}, zeroFrac, true},
		{10, []int{0, 0}, []int{0, 0, 0}, zeroFrac, true},
		{2, nil, []int{0, 0, 0, 0, 0}, zeroFrac, true},
		{10, []int{0, 8}, []int{3}, impl.Frac{Top: 1, Bottom: 12}, true},
		{10, []int{0, 8, 3}, []int{3}, impl.Frac{Top: 1, Bottom: 12}, true},
		{10, []int{0, 8}, []int{3, 3}, impl.Frac{Top: 1, Bottom: 12}, true},
		{10, []int{0, 8, 3}, []int{3, 3}, impl.Frac{Top: 1, Bottom: 12}, true},
		{10, []int{5, 0, 0, 0}, []int{0}, impl.Frac{Top: 1, Bottom: 2}, true},
		{10, []int{2}, []int{7, 2, 7, 2}, impl.Frac{Top: 3, Bottom: 11}, true},
		{2, []int{0, 1}, []int{0, 1}, impl.Frac{Top: 1, Bottom: 3}, true},
		{16, []int{10, 0}, []int{0}, impl.Frac{Top: 5, Bottom: 8}, true},
		// Digits that are 1 less than the base, but not all of the round.
		{10, []int{9, 9, 9}, []int{0}, impl.Frac{Top: 999, Bottom: 1000}, true},
		{10, nil, []int{9, 9, 8}, impl.Frac{Top: 998, Bottom: 999}, true},
		{16, []int{15}, []int{14}, impl.Frac{Top: 239, Bottom: 240}, true},
		{2, []int{1, 1, 1, 1}, []int{0}, impl.Frac{Top: 15, Bottom: 16}, true},
		// Bottoms of at most BottomMax, and greater ones.
		{10, []int{0, 0, 1}, []int{0}, impl.Frac{Top: 1, Bottom: 1000}, true},
		{10, []int{0}, []int{0, 1}, impl.Frac{Top: 1, Bottom: 990}, true},
		{10, nil, []int{0, 0, 1}, impl.Frac{Top: 1, Bottom: 999}, true},
		{16, []int{0}, []int{0, 4, 1}, impl.Frac{}, false},    // 1 over 1008, the next one that 5 digits tell
		{8, []int{0, 0}, []int{0, 4}, impl.Frac{}, false},     // 1 over 1008
		{10, []int{0}, []int{0, 0, 9, 9}, impl.Frac{}, false}, // 1 over 1010
		{16, []int{0, 0, 4}, []int{0}, impl.Frac{}, false},    // 1 over 1024
		{10, nil, []int{0, 0, 0, 9}, impl.Frac{}, false},      // 1 over 1111
		{10, nil, []int{0, 0, 0, 0, 1}, impl.Frac{}, false},   // 1 over 99999
		{16, []int{0, 0, 0, 0}, []int{1}, impl.Frac{}, false}, // 1 over 983040
		// Rounds whose digits are all 1 less than the base.
		{10, nil, []int{9}, impl.Frac{}, false},
		{10, []int{4}, []int{9}, impl.Frac{}, false},
		{10, nil, []int{9, 9, 9, 9, 9}, impl.Frac{}, false},
		{2, []int{0}, []int{1}, impl.Frac{}, false},
		{2, nil, []int{1, 1}, impl.Frac{}, false},
		{16, []int{0, 0}, []int{15, 15, 15}, impl.Frac{}, false},
		// Empty rounds.
		{10, nil, nil, impl.Frac{}, false},
		{10, []int{}, []int{}, impl.Frac{}, false},
		{10, []int{5}, nil, impl.Frac{}, false},
		{2, []int{0, 0, 0, 0, 0}, []int{}, impl.Frac{}, false},
		// More than 5 digits together.
		{10, []int{0, 0, 0, 0, 0}, []int{0}, impl.Frac{}, false},
		{10, []int{5, 0, 0}, []int{0, 0, 0}, impl.Frac{}, false},
		{10, nil, []int{3, 3, 3, 3, 3, 3}, impl.Frac{}, false},
		{10, []int{1}, []int{4, 2, 8, 5, 7}, impl.Frac{}, false},
		{10, nil, []int{1, 4, 2, 8, 5, 7}, impl.Frac{}, false},
		{10, make([]int, 100000), []int{0}, impl.Frac{}, false},
		{10, nil, make([]int, 100000), impl.Frac{}, false},
		// Digits of other bases.
		{9, nil, []int{9}, impl.Frac{}, false},
		{9, []int{9}, []int{0}, impl.Frac{}, false},
		{2, []int{2}, []int{0}, impl.Frac{}, false},
		{16, nil, []int{16}, impl.Frac{}, false},
		{16, []int{0}, []int{0, 16}, impl.Frac{}, false},
	} {
		if got, ok := impl.FracOf(x.b, x.begin, x.round); ok != x.ok || got != x.want {
			t.Errorf("FracOf(%d, %v, %v) = %v, %v, not %v, %v", x.b, x.begin, x.round, got, ok, x.want, x.ok)
		}
	}
}

// TestP6 checks that FracOf leads back for all fractions with short beginnings and rounds.
func TestP6(t *testing.T) {
	found := 0
	for b := leastBase; b <= greatestBase; b++ {
		for bottom := 1; bottom <= bottomMax; bottom++ {
			for i, f := range fracsOver(bottom) {
				// Both lengths depend on the bottom alone.
				if n, m := lengths(t, b, f); i == 0 && n+m > 5 {
					break
				}
				got, ok := impl.FracOf(b, begin(t, b, f), round(t, b, f))
				if !ok || got != f {
					t.Fatalf("FracOf of beginning and round of %v in base %d is %v, %v", f, b, got, ok)
				}
				found++
			}
		}
	}
	if found == 0 {
		t.Fatal("no fraction has at most 5 digits")
	}
}

// TestP7 checks that FracEnds holds exactly if the bottom divides a power of the base, and which one.
func TestP7(t *testing.T) {
	eachSome(func(b int, f impl.Frac) {
		power := new(big.Int).Exp(big.NewInt(int64(b)), big.NewInt(10), nil)
		// No bottom has more than 9 prime divisors.
		divides := new(big.Int).Mod(power, big.NewInt(int64(f.Bottom))).Sign() == 0
		if impl.FracEnds(b, f) != divides {
			t.Fatalf("FracEnds(%d, %v) is not %v", b, f, divides)
		}
		if !divides {
			return
		}
		n := int64(len(begin(t, b, f)))
		power.Exp(big.NewInt(int64(b)), big.NewInt(n), nil)
		if power.Mod(power, big.NewInt(int64(f.Bottom))).Sign() != 0 {
			t.Fatalf("FracEnds(%d, %v) holds, but the bottom does not divide the power %d", b, f, n)
		}
		if again := round(t, b, f); !slices.Equal(again, []int{0}) {
			t.Fatalf("FracEnds(%d, %v) holds, but the round is %v", b, f, again)
		}
	})
}

// TestP8 checks both lengths.
func TestP8(t *testing.T) {
	eachSome(func(b int, f impl.Frac) {
		n, m := lengths(t, b, f)
		first, again := begin(t, b, f), round(t, b, f)
		if n != len(first) || m != len(again) {
			t.Fatalf("FracLengths(%d, %v) = %d, %d, but the digits are %v and %v", b, f, n, m, first, again)
		}
	})
	for _, x := range []struct {
		b    int
		f    impl.Frac
		n, m int
	}{
		{10, impl.Frac{Top: 1, Bottom: 983}, 0, 982},
		{10, impl.Frac{Top: 1, Bottom: 997}, 0, 166},
		{2, impl.Frac{Top: 1, Bottom: 1000}, 3, 100},
		{16, impl.Frac{Top: 1, Bottom: 1000}, 1, 25},
		{10, impl.Frac{Top: 1, Bottom: 1000}, 3, 1},
		{2, impl.Frac{Top: 511, Bottom: 512}, 9, 1},
	} {
		if n, m := lengths(t, x.b, x.f); n != x.n || m != x.m {
			t.Errorf("FracLengths(%d, %v) = %d, %d, not %d, %d", x.b, x.f, n, m, x.n, x.m)
		}
	}
}

// TestP9 checks that digits come again, from the end of the beginning on, to the last place.
func TestP9(t *testing.T) {
	eachSome(func(b int, f impl.Frac) {
		first, again := begin(t, b, f), round(t, b, f)
		n, m := len(first), len(again)
		for _, place := range []int{n, n + f.Top%m, n + m - 1, 1000, 654321, greatestPlace - m} {
			one, ok := impl.FracDigit(b, f, place)
			next, okNext := impl.FracDigit(b, f, place+m)
			if want := again[(place-n)%m]; !ok || !okNext || one != want || next != want {
				t.Fatalf("FracDigit(%d, %v) returned %d, %v at %d and %d, %v at %d, and not %d", b, f, one, ok, place, next, okNext, place+m, want)
			}
		}
	})
}

func TestP9Edges(t *testing.T) {
	seventh := impl.Frac{Top: 1, Bottom: 7}
	for _, x := range []struct {
		b     int
		f     impl.Frac
		place int
		want  int
		ok    bool
	}{
		{10, seventh, 0, 1, true},
		{10, seventh, 1, 4, true},
		{10, seventh, 1000, 5, true},
		{10, seventh, greatestPlace - 1, 8, true},
		{10, seventh, greatestPlace, 5, true},
		{10, seventh, greatestPlace + 1, 0, false},
		{10, seventh, -1, 0, false},
		{10, seventh, math.MinInt, 0, false},
		{10, seventh, math.MaxInt, 0, false},
		{10, impl.Frac{Top: 1, Bottom: 12}, 1, 8, true},
		{10, impl.Frac{Top: 1, Bottom: 12}, greatestPlace, 3, true},
		{10, impl.Frac{Top: 999, Bottom: 1000}, 2, 9, true},
		{10, impl.Frac{Top: 999, Bottom: 1000}, 3, 0, true},
		{10, impl.Frac{Top: 999, Bottom: 1000}, greatestPlace, 0, true},
		{2, impl.Frac{Top: 1, Bottom: 3}, greatestPlace, 0, true},
		{2, impl.Frac{Top: 1, Bottom: 3}, greatestPlace - 1, 1, true},
		{16, impl.Frac{Top: 16, Bottom: 17}, 0, 15, true},
		{16, impl.Frac{Top: 16, Bottom: 17}, greatestPlace, 15, true},
		{16, impl.Frac{Top: 16, Bottom: 17}, greatestPlace + 1, 0, false},
		{16, zeroFrac, 0, 0, true},
		{16, zeroFrac, greatestPlace, 0, true},
		{16, zeroFrac, greatestPlace + 1, 0, false},
	} {
		if got, ok := impl.FracDigit(x.b, x.f, x.place); ok != x.ok || got != x.want {
			t.Errorf("FracDigit(%d, %v, %d) = %d, %v, not %d, %v", x.b, x.f, x.place, got, ok, x.want, x.ok)
		}
	}
}
