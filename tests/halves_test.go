package tests

import (
	"fmt"
	"math/big"
	"slices"
	"testing"

	"loop.example/fractionrounds/impl"
)

// toldParts are parts of rounds, worked out by hand; a multiple of 0 tells that there is no whole one.
var toldParts = []struct {
	b        int
	f        impl.Frac
	k        int
	list     [][]int
	rests    []int
	multiple int
	sum      []int
}{
	// One part alone, also of rounds of one digit: it is never a multiple of its nines.
	{3, impl.Frac{Top: 1, Bottom: 2}, 1, [][]int{{1}}, []int{1}, 0, []int{1}},
	{10, impl.Frac{Top: 1, Bottom: 3}, 1, [][]int{{3}}, []int{1}, 0, []int{3}},
	{10, impl.Frac{Top: 8, Bottom: 9}, 1, [][]int{{8}}, []int{8}, 0, []int{8}},
	{16, impl.Frac{Top: 14, Bottom: 15}, 1, [][]int{{14}}, []int{14}, 0, []int{14}},
	{2, impl.Frac{Top: 1, Bottom: 7}, 1, [][]int{{0, 0, 1}}, []int{1}, 0, []int{1}},
	{10, impl.Frac{Top: 1, Bottom: 7}, 1, [][]int{{1, 4, 2, 8, 5, 7}}, []int{1}, 0, []int{1, 4, 2, 8, 5, 7}},
	{10, impl.Frac{Top: 1, Bottom: 37}, 1, [][]int{{0, 2, 7}}, []int{1}, 0, []int{2, 7}},
	{10, impl.Frac{Top: 1, Bottom: 999}, 1, [][]int{{0, 0, 1}}, []int{1}, 0, []int{1}},
	{10, impl.Frac{Top: 998, Bottom: 999}, 1, [][]int{{9, 9, 8}}, []int{998}, 0, []int{9, 9, 8}},
	{16, impl.Frac{Top: 1, Bottom: 17}, 1, [][]int{{0, 15}}, []int{1}, 0, []int{15}},
	// Halves.
	{2, impl.Frac{Top: 1, Bottom: 3}, 2, [][]int{{0}, {1}}, []int{1, 2}, 1, []int{1}},
	{2, impl.Frac{Top: 2, Bottom: 3}, 2, [][]int{{1}, {0}}, []int{2, 1}, 1, []int{1}},
	{2, impl.Frac{Top: 1, Bottom: 9}, 2, [][]int{{0, 0, 0}, {1, 1, 1}}, []int{1, 8}, 1, []int{1, 1, 1}},
	{10, impl.Frac{Top: 1, Bottom: 7}, 2, [][]int{{1, 4, 2}, {8, 5, 7}}, []int{1, 6}, 1, []int{9, 9, 9}},
	{10, impl.Frac{Top: 12, Bottom: 13}, 2, [][]int{{9, 2, 3}, {0, 7, 6}}, []int{12, 1}, 1, []int{9, 9, 9}},
	{16, impl.Frac{Top: 16, Bottom: 17}, 2, [][]int{{15}, {0}}, []int{16, 1}, 1, []int{15}},
	// Sums that are no whole multiple of nines, of bottoms that are no primes.
	{2, impl.Frac{Top: 1, Bottom: 15}, 2, [][]int{{0, 0}, {0, 1}}, []int{1, 4}, 0, []int{1}},
	{2, impl.Frac{Top: 1, Bottom: 9}, 3, [][]int{{0, 0}, {0, 1}, {1, 1}}, []int{1, 4, 7}, 0, []int{1, 0, 0}},
	{10, impl.Frac{Top: 1, Bottom: 21}, 2, [][]int{{0, 4, 7}, {6, 1, 9}}, []int{1, 13}, 0, []int{6, 6, 6}},
	{10, impl.Frac{Top: 20, Bottom: 21}, 2, [][]int{{9, 5, 2}, {3, 8, 0}}, []int{20, 8}, 0, []int{1, 3, 3, 2}},
	{10, impl.Frac{Top: 1, Bottom: 33}, 2, [][]int{{0}, {3}}, []int{1, 10}, 0, []int{3}},
	{10, impl.Frac{Top: 98, Bottom: 99}, 2, [][]int{{9}, {8}}, []int{98, 89}, 0, []int{1, 7}},
	{16, impl.Frac{Top: 1, Bottom: 255}, 2, [][]int{{0}, {1}}, []int{1, 16}, 0, []int{1}},
	// More parts, sums with carries, and as many parts as digits.
	{2, impl.Frac{Top: 1, Bottom: 7}, 3, [][]int{{0}, {0}, {1}}, []int{1, 2, 4}, 1, []int{1}},
	{2, impl.Frac{Top: 3, Bottom: 7}, 3, [][]int{{0}, {1}, {1}}, []int{3, 6, 5}, 2, []int{1, 0}},
	{2, impl.Frac{Top: 1, Bottom: 9}, 6, [][]int{{0}, {0}, {0}, {1}, {1}, {1}}, []int{1, 2, 4, 8, 7, 5}, 3, []int{1, 1}},
	{10, impl.Frac{Top: 1, Bottom: 7}, 3, [][]int{{1, 4}, {2, 8}, {5, 7}}, []int{1, 2, 4}, 1, []int{9, 9}},
	{10, impl.Frac{Top: 6, Bottom: 7}, 3, [][]int{{8, 5}, {7, 1}, {4, 2}}, []int{6, 5, 3}, 2, []int{1, 9, 8}},
	{10, impl.Frac{Top: 1, Bottom: 7}, 6, [][]int{{1}, {4}, {2}, {8}, {5}, {7}}, []int{1, 3, 2, 6, 4, 5}, 3, []int{2, 7}},
	{10, impl.Frac{Top: 1, Bottom: 21}, 3, [][]int{{0, 4}, {7, 6}, {1, 9}}, []int{1, 16, 4}, 1, []int{9, 9}},
	{10, impl.Frac{Top: 1, Bottom: 21}, 6, [][]int{{0}, {4}, {7}, {6}, {1}, {9}}, []int{1, 10, 16, 13, 4, 19}, 3, []int{2, 7}},
	{10, impl.Frac{Top: 1, Bottom: 37}, 3, [][]int{{0}, {2}, {7}}, []int{1, 10, 26}, 1, []int{9}},
	{10, impl.Frac{Top: 1, Bottom: 999}, 3, [][]int{{0}, {0}, {1}}, []int{1, 10, 100}, 0, []int{1}},
	{16, impl.Frac{Top: 2, Bottom: 11}, 5, [][]int{{2}, {14}, {8}, {11}, {10}}, []int{2, 10, 6, 8, 7}, 3, []int{2, 13}},
}

// checkParts compares all functions with a number of parts with what is told.
func checkParts(t *testing.T, b int, f impl.Frac, k int, wantParts [][]int, rests []int, multiple int, sum []int) {
	t.Helper()
	name := fmt.Sprintf("(%d, %v, %d)", b, f, k)
	list, ok := impl.PartList(b, f, k)
	if !ok || !slices.EqualFunc(list, wantParts, slices.Equal) {
		t.Fatalf("PartList%s = %v, %v, not %v", name, list, ok, wantParts)
	}
	got, ok := impl.PartRests(b, f, k)
	wantList(t, "PartRests"+name, got, ok, rests)
	number, ok := impl.PartMultiple(b, f, k)
	wantNumber(t, "PartMultiple"+name, number, ok, multiple, multiple != 0)
	got, ok = impl.PartSum(b, f, k)
	wantList(t, "PartSum"+name, got, ok, sum)
}

func TestPartsTold(t *testing.T) {
	for _, x := range toldParts {
		checkParts(t, x.b, x.f, x.k, x.list, x.rests, x.multiple, x.sum)
	}
}

func TestPartHalvesTold(t *testing.T) {
	for _, x := range []struct {
		b    int
		f    impl.Frac
		want bool
	}{
		{2, impl.Frac{Top: 1, Bottom: 3}, true}, {2, impl.Frac{Top: 2, Bottom: 3}, true}, {2, impl.Frac{Top: 1, Bottom: 5}, true},
		{2, impl.Frac{Top: 1, Bottom: 9}, true}, {2, impl.Frac{Top: 998, Bottom: 999}, false},
		{10, impl.Frac{Top: 1, Bottom: 7}, true}, {10, impl.Frac{Top: 6, Bottom: 7}, true}, {10, impl.Frac{Top: 5, Bottom: 13}, true},
		{10, impl.Frac{Top: 1, Bottom: 77}, true}, {10, impl.Frac{Top: 1, Bottom: 983}, true}, {10, impl.Frac{Top: 996, Bottom: 997}, true},
		{16, impl.Frac{Top: 1, Bottom: 17}, true}, {16, impl.Frac{Top: 16, Bottom: 17}, true},
		// Even lengths where the first digits of the halves add up, and others do not.
		{10, impl.Frac{Top: 1, Bottom: 21}, false}, {10, impl.Frac{Top: 1, Bottom: 33}, false}, {2, impl.Frac{Top: 1, Bottom: 15}, false},
		{2, impl.Frac{Top: 5, Bottom: 21}, false}, {16, impl.Frac{Top: 1, Bottom: 255}, false}, {3, impl.Frac{Top: 1, Bottom: 8}, false},
		// Odd lengths.
		{3, impl.Frac{Top: 1, Bottom: 2}, false}, {2, impl.Frac{Top: 1, Bottom: 7}, false}, {10, impl.Frac{Top: 1, Bottom: 3}, false},
		{10, impl.Frac{Top: 1, Bottom: 37}, false}, {10, impl.Frac{Top: 1, Bottom: 41}, false}, {10, impl.Frac{Top: 1, Bottom: 999}, false}, {16, impl.Frac{Top: 1, Bottom: 15}, false},
		// Tops of 0, and common divisors with the base, also where the round has halves that add up.
		{10, zeroFrac, false}, {2, zeroFrac, false}, {10, impl.Frac{Top: 0, Bottom: 7}, false},
		{10, impl.Frac{Top: 1, Bottom: 14}, false}, {10, impl.Frac{Top: 1, Bottom: 22}, false}, {2, impl.Frac{Top: 1, Bottom: 6}, false}, {16, impl.Frac{Top: 1, Bottom: 34}, false},
		{10, impl.Frac{Top: 1, Bottom: 1000}, false}, {7, impl.Frac{Top: 1, Bottom: 1000}, false},
		{2, impl.Frac{Top: 1, Bottom: 1001}, false}, {1, impl.Frac{Top: 1, Bottom: 7}, false}, {17, impl.Frac{Top: 1, Bottom: 7}, false},
	} {
		if got := impl.PartHalves(x.b, x.f); got != x.want {
			t.Errorf("PartHalves(%d, %v) is %v", x.b, x.f, got)
		}
	}
}

func TestPartAllTold(t *testing.T) {
	for _, x := range []struct {
		b, n int
		want []int
		ok   bool
	}{
		{3, 2, nil, true}, {15, 2, nil, true}, {2, 3, []int{2}, true}, {2, 7, []int{3}, true}, {2, 9, []int{2, 6}, true}, {2, 15, []int{4}, true},
		{10, 3, nil, true}, {10, 9, nil, true}, {10, 7, []int{2, 3, 6}, true}, {10, 11, []int{2}, true}, {10, 13, []int{2, 3, 6}, true},
		{10, 17, []int{2, 4, 8, 16}, true}, {10, 21, []int{3, 6}, true}, {10, 33, nil, true}, {10, 37, []int{3}, true}, {10, 99, nil, true},
		{16, 15, nil, true}, {16, 17, []int{2}, true}, {16, 255, nil, true}, {16, 11, []int{5}, true},
		{7, 300, nil, true}, {10, 299, []int{2, 6, 22, 33, 66}, true}, {2, 293, []int{2, 4, 73, 146, 292}, true},
		// Common divisors with the base, and what is no number to ask for.
		{2, 2, nil, false}, {10, 2, nil, false}, {10, 12, nil, false}, {10, 300, nil, false}, {2, 300, nil, false}, {16, 300, nil, false},
		{10, 1, nil, false}, {2, 1, nil, false}, {16, 1, nil, false}, {10, 0, nil, false}, {10, -7, nil, false},
		{2, 301, nil, false}, {10, 301, nil, false}, {16, 301, nil, false}, {10, 307, nil, false}, {10, 997, nil, false},
	} {
		got, ok := impl.PartAll(x.b, x.n)
		if ok != x.ok || !slices.Equal(got, x.want) {
			t.Errorf("PartAll(%d, %d) = %v, %v, not %v, %v", x.b, x.n, got, ok, x.want, x.ok)
		}
	}
}

// roundCut returns the round of a fraction by long division, or nothing where the document rules parts out.
func roundCut(b int, f impl.Frac) []int {
	if f.Top == 0 || divisor(b, f.Bottom) != 1 {
		return nil
	}
	_, again := longDivision(b, f)
	return again
}

// eachCut calls a test for all bases, some fractions whose rounds have parts, and all numbers of these. Of most bottoms each base has another third of some fractions: all would take long.
func eachCut(check func(b int, f impl.Frac, k int, want [][]int)) {
	eachSome(func(b int, f impl.Frac) {
		if f.Bottom > 48 && f.Bottom < 990 && (b+f.Top+f.Bottom)%3 != 0 {
			return
		}
		digits := roundCut(b, f)
		for k := 1; k <= len(digits); k++ {
			if len(digits)%k == 0 {
				check(b, f, k, slices.Collect(slices.Chunk(digits, len(digits)/k)))
			}
		}
	})
}

// bigOf returns the number with a list of digits.
func bigOf(b int, digits []int) *big.Int {
	text := make([]byte, len(digits))
	for i, digit := range digits {
		text[i] = "0123456789abcdef"[digit]
	}
	number, _ := new(big.Int).SetString(string(text), b)
	return number
}

// bigSum returns the sum of parts as a number, and the nines of their length.
func bigSum(b int, cut [][]int) (sum, nines *big.Int) {
	sum = new(big.Int)
	for _, part := range cut {
		sum.Add(sum, bigOf(b, part))
	}
	nines = new(big.Int).Exp(big.NewInt(int64(b)), big.NewInt(int64(len(cut[0]))), nil)
	return sum, nines.Sub(nines, big.NewInt(1))
}

// partList and partRests are for arguments for which the functions must succeed.
func partList(t *testing.T, b int, f impl.Frac, k int) [][]int {
	t.Helper()
	list, ok := impl.PartList(b, f, k)
	if !ok {
		t.Fatalf("PartList(%d, %v, %d) fails", b, f, k)
	}
	return list
}

func partRests(t *testing.T, b int, f impl.Frac, k int) []int {
	t.Helper()
	rests, ok := impl.PartRests(b, f, k)
	if !ok || len(rests) != k {
		t.Fatalf("PartRests(%d, %v, %d) = %v, %v", b, f, k, rests, ok)
	}
	return rests
}

// TestP25 checks that the parts behind each other are the round, all of one length.
func TestP25(t *testing.T) {
	eachCut(func(b int, f impl.Frac, k int, want [][]int) {
		list := partList(t, b, f, k)
		if !slices.EqualFunc(list, want, slices.Equal) {
			t.Fatalf("PartList(%d, %v, %d) = %v, not %v", b, f, k, list, want)
		}
		digits := round(t, b, f)
		if !slices.Equal(slices.Concat(list...), digits) {
			t.Fatalf("PartList(%d, %v, %d) = %v, but FracRound is %v", b, f, k, list, digits)
		}
		for _, part := range list {
			if len(list) != k || len(part)*k != len(digits) {
				t.Fatalf("PartList(%d, %v, %d) = %v has not %d parts of one length", b, f, k, list, k)
			}
		}
	})
}

// TestP26 checks that the rests are those of RestRound with as many between as a part has digits.
func TestP26(t *testing.T) {
	eachCut(func(b int, f impl.Frac, k int, want [][]int) {
		rests := partRests(t, b, f, k)
		again, ok := impl.RestRound(b, f)
		if !ok || rests[0] != f.Top {
			t.Fatalf("PartRests(%d, %v, %d) = %v, but RestRound is %v, %v", b, f, k, rests, again, ok)
		}
		for i, rest := range rests {
			if rest != again[i*len(want[0])] {
				t.Fatalf("PartRests(%d, %v, %d) = %v, but RestRound is %v", b, f, k, rests, again)
			}
		}
	})
}

// TestP27 compares PartMultiple with the numbers that the parts are, and with the sum of PartRests.
func TestP27(t *testing.T) {
	whole, broken := 0, 0
	eachCut(func(b int, f impl.Frac, k int, want [][]int) {
		got, ok := impl.PartMultiple(b, f, k)
		sum, nines := bigSum(b, want)
		multiple, left := new(big.Int).DivMod(sum, nines, new(big.Int))
		if left.Sign() != 0 {
			wantNumber(t, fmt.Sprintf("PartMultiple(%d, %v, %d)", b, f, k), got, ok, 0, false)
			broken++
			return
		}
		whole++
		if !ok || int64(got) != multiple.Int64() || got < 1 || got >= k {
			t.Fatalf("PartMultiple(%d, %v, %d) = %d, %v, not %v", b, f, k, got, ok, multiple)
		}
		rests := 0
		for _, rest := range partRests(t, b, f, k) {
			rests += rest
		}
		if got*f.Bottom != rests {
			t.Fatalf("PartMultiple(%d, %v, %d) = %d, but the rests add up to %d", b, f, k, got, rests)
		}
	})
	if whole < 1000 || broken < 1000 {
		t.Fatalf("%d sums are a whole multiple of nines, and %d are not", whole, broken)
	}
}

// TestP28 checks that prime bottoms have whole multiples for all numbers of parts but 1.
func TestP28(t *testing.T) {
	primes := smallPrimes()
	eachCut(func(b int, f impl.Frac, k int, _ [][]int) {
		if !slices.Contains(primes, f.Bottom) {
			return
		}
		partList(t, b, f, k)
		if multiple, ok := impl.PartMultiple(b, f, k); ok != (k > 1) || ok != (multiple != 0) {
			t.Fatalf("PartMultiple(%d, %v, %d) = %d, %v", b, f, k, multiple, ok)
		}
	})
}

// halvesOf reports whether the digits of both halves of a round add up, by long division.
func halvesOf(b int, f impl.Frac) bool {
	digits := roundCut(b, f)
	if len(digits) == 0 || len(digits)%2 != 0 {
		return false
	}
	for i := range len(digits) / 2 {
		if digits[i]+digits[i+len(digits)/2] != b-1 {
			return false
		}
	}
	return true
}

// TestP29 checks PartHalves by long division, and that the multiple for 2 is 1 where it holds.
func TestP29(t *testing.T) {
	held, not := 0, 0
	eachSome(func(b int, f impl.Frac) {
		want := halvesOf(b, f)
		if impl.PartHalves(b, f) != want {
			t.Fatalf("PartHalves(%d, %v) is not %v", b, f, want)
		}
		if !want {
			not++
			return
		}
		held++
		if multiple, ok := impl.PartMultiple(b, f, 2); !ok || multiple != 1 {
			t.Fatalf("PartHalves(%d, %v) holds, but PartMultiple for 2 is %d, %v", b, f, multiple, ok)
		}
	})
	if held < 1000 || not < 1000 {
		t.Fatalf("%d rounds have halves that add up, and %d have not", held, not)
	}
}

// TestP30 checks that PartHalves holds where there is a multiple for 2.
func TestP30(t *testing.T) {
	eachSome(func(b int, f impl.Frac) {
		if multiple, ok := impl.PartMultiple(b, f, 2); ok && !impl.PartHalves(b, f) {
			t.Fatalf("PartMultiple(%d, %v, 2) = %d, but PartHalves does not hold", b, f, multiple)
		}
	})
}

// allOf returns all numbers from 2 on for which the parts of 1 over n add up to a whole multiple of nines.
func allOf(b, n int) []int {
	var all []int
	digits := roundCut(b, impl.Frac{Top: 1, Bottom: n})
	for k := 2; k <= len(digits); k++ {
		if len(digits)%k != 0 {
			continue
		}
		sum, nines := bigSum(b, slices.Collect(slices.Chunk(digits, len(digits)/k)))
		if new(big.Int).Mod(sum, nines).Sign() == 0 {
			all = append(all, k)
		}
	}
	return all
}

// TestP31 checks PartAll for all bases and numbers, and what is just outside of them.
func TestP31(t *testing.T) {
	primes := smallPrimes()
	for b := leastBase; b <= greatestBase; b++ {
		for n := -2; n <= 303; n++ {
			got, ok := impl.PartAll(b, n)
			if n < 2 || n > 300 || divisor(b, n) != 1 {
				wantNoList(t, fmt.Sprintf("PartAll(%d, %d)", b, n), got, ok)
				continue
			}
			wantList(t, fmt.Sprintf("PartAll(%d, %d)", b, n), got, ok, allOf(b, n))
			length := order(t, b, n)
			for k := 2; k <= length; k++ {
				told := slices.Contains(got, k)
				if told && length%k != 0 || !told && length%k == 0 && slices.Contains(primes, n) {
					t.Fatalf("PartAll(%d, %d) = %v, but OrderOf is %d", b, n, got, length)
				}
			}
		}
	}
}

// TestP32 compares PartSum with the sum of the numbers that the parts are.
func TestP32(t *testing.T) {
	longer, shorter := 0, 0
	eachCut(func(b int, f impl.Frac, k int, want [][]int) {
		got, ok := impl.PartSum(b, f, k)
		sum, _ := bigSum(b, want)
		if !ok || len(got) == 0 || got[0] == 0 || bigOf(b, got).Cmp(sum) != 0 {
			t.Fatalf("PartSum(%d, %v, %d) = %v, %v, not %v in base %d", b, f, k, got, ok, sum.Text(b), b)
		}
		if k == 2 && impl.PartHalves(b, f) && (!onlyGreatest(b, got) || len(got) != len(want[0])) {
			t.Fatalf("PartSum(%d, %v, 2) = %v, but PartHalves holds", b, f, got)
		}
		if len(got) > len(want[0]) {
			longer++
		}
		if len(got) < len(want[0]) {
			shorter++
		}
	})
	if longer < 1000 || shorter < 100 {
		t.Fatalf("%d sums are longer than a part, and %d are shorter", longer, shorter)
	}
}
