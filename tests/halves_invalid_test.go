package tests

import (
	"fmt"
	"math"
	"slices"
	"testing"

	"loop.example/fractionrounds/impl"
)

// wildParts are no numbers of parts of any round.
var wildParts = []int{math.MinInt, math.MinInt + 1, -1000, -6, -3, -2, -1, 0, 1000, 1001, math.MaxInt - 1, math.MaxInt}

// goodFracs are fractions of which each has parts in some bases.
var goodFracs = []impl.Frac{{Top: 1, Bottom: 2}, {Top: 1, Bottom: 3}, {Top: 1, Bottom: 7}, {Top: 6, Bottom: 7}, {Top: 1, Bottom: 9}, {Top: 1, Bottom: 21}, {Top: 98, Bottom: 99}, {Top: 1, Bottom: 983}, {Top: 998, Bottom: 999}, {Top: 1, Bottom: 1000}, {Top: 999, Bottom: 1000}}

// wantPartsFail checks that each function with a number of parts fails with zero values.
func wantPartsFail(t *testing.T, b int, f impl.Frac, k int) {
	t.Helper()
	name := fmt.Sprintf("(%d, %v, %d)", b, f, k)
	endsInTime(t, name, func() {
		if list, ok := impl.PartList(b, f, k); ok || len(list) != 0 {
			t.Errorf("PartList%s = %v, %v", name, list, ok)
		}
		if rests, ok := impl.PartRests(b, f, k); ok || len(rests) != 0 {
			t.Errorf("PartRests%s = %v, %v", name, rests, ok)
		}
		if multiple, ok := impl.PartMultiple(b, f, k); ok || multiple != 0 {
			t.Errorf("PartMultiple%s = %d, %v", name, multiple, ok)
		}
		if sum, ok := impl.PartSum(b, f, k); ok || len(sum) != 0 {
			t.Errorf("PartSum%s = %v, %v", name, sum, ok)
		}
	})
}

// wantNoParts checks that nothing is told of a fraction for any number of parts.
func wantNoParts(t *testing.T, b int, f impl.Frac) {
	t.Helper()
	for _, k := range append([]int{1, 2, 3, 6, 18}, wildParts...) {
		wantPartsFail(t, b, f, k)
	}
	endsInTime(t, "PartHalves", func() {
		if impl.PartHalves(b, f) {
			t.Errorf("PartHalves(%d, %v) holds", b, f)
		}
	})
}

func TestPartsNoBase(t *testing.T) {
	for _, b := range wildBases {
		for _, f := range slices.Concat(goodFracs, wildFracs, []impl.Frac{zeroFrac}) {
			wantNoParts(t, b, f)
		}
		for _, n := range append([]int{2, 3, 7, 21, 299, 300, 301}, wildBottoms...) {
			wantAllFails(t, b, n)
		}
	}
}

// TestPartsNoFraction asks for what is no fraction, and for the one with the top 0.
func TestPartsNoFraction(t *testing.T) {
	for b := leastBase; b <= greatestBase; b++ {
		for _, f := range append([]impl.Frac{zeroFrac, {Top: 0, Bottom: 7}}, wildFracs...) {
			wantNoParts(t, b, f)
		}
	}
}

// TestPartsCommonDivisor asks for fractions that end, and for those with a beginning ahead of a round that could be cut.
func TestPartsCommonDivisor(t *testing.T) {
	for b := leastBase; b <= greatestBase; b++ {
		for n := b; n <= bottomMax; n++ {
			if divisor(b, n) != 1 && (n < 10*b || n > 900) {
				wantNoParts(t, b, impl.Frac{Top: 1, Bottom: n})
				wantNoParts(t, b, impl.Frac{Top: n - 1, Bottom: n})
			}
		}
	}
}

// TestPartsNoDivisor asks for each number from 0 to 1 more than the length of the round, and for wild ones.
func TestPartsNoDivisor(t *testing.T) {
	for b := leastBase; b <= greatestBase; b++ {
		for _, f := range goodFracs {
			m := len(roundCut(b, f))
			if m == 0 {
				continue
			}
			for k := 0; k <= m+1; k++ {
				if k == 0 || m%k != 0 {
					wantPartsFail(t, b, f, k)
				} else if list := partList(t, b, f, k); len(list) != k {
					t.Fatalf("PartList(%d, %v, %d) = %v", b, f, k, list)
				}
			}
			for _, k := range append([]int{-m, 2 * m, 3 * m}, wildParts...) {
				wantPartsFail(t, b, f, k)
			}
		}
	}
}

func wantAllFails(t *testing.T, b, n int) {
	t.Helper()
	name := fmt.Sprintf("PartAll(%d, %d)", b, n)
	endsInTime(t, name, func() {
		if all, ok := impl.PartAll(b, n); ok || len(all) != 0 {
			t.Errorf("%s = %v, %v", name, all, ok)
		}
	})
}

func TestPartAllNoNumber(t *testing.T) {
	for b := leastBase; b <= greatestBase; b++ {
		for _, n := range append([]int{301, 302, 303, 307, 311, 997, 999, 1000}, wildBottoms...) {
			wantAllFails(t, b, n)
		}
		for n := b; n <= 300; n += b {
			wantAllFails(t, b, n)
		}
	}
}

// TestPartsSameAnswers asks the same again, with other questions between.
func TestPartsSameAnswers(t *testing.T) {
	ask := func(b int, f impl.Frac, k int) string {
		list, ok1 := impl.PartList(b, f, k)
		rests, ok2 := impl.PartRests(b, f, k)
		multiple, ok3 := impl.PartMultiple(b, f, k)
		sum, ok4 := impl.PartSum(b, f, k)
		all, ok5 := impl.PartAll(b, f.Bottom)
		return fmt.Sprint(list, rests, multiple, sum, all, ok1, ok2, ok3, ok4, ok5, impl.PartHalves(b, f))
	}
	first := map[string]string{}
	for range 3 {
		for b := leastBase - 1; b <= greatestBase+1; b++ {
			for _, f := range goodFracs {
				for _, k := range []int{-1, 0, 1, 2, 3, 6, 7} {
					question := fmt.Sprint(b, f, k)
					answer := ask(b, f, k)
					if want, asked := first[question]; asked && answer != want {
						t.Fatalf("for %s the answers are %s and %s", question, want, answer)
					}
					first[question] = answer
				}
			}
		}
	}
}

// TestPartResultsShareNoMemory spoils the parts of one list, and the lists of all functions.
func TestPartResultsShareNoMemory(t *testing.T) {
	for _, x := range []struct {
		b, k int
		f    impl.Frac
	}{
		{3, 1, impl.Frac{Top: 1, Bottom: 2}}, {10, 1, impl.Frac{Top: 1, Bottom: 7}}, {10, 2, impl.Frac{Top: 1, Bottom: 7}}, {10, 3, impl.Frac{Top: 6, Bottom: 7}},
		{10, 6, impl.Frac{Top: 1, Bottom: 7}}, {2, 2, impl.Frac{Top: 1, Bottom: 3}}, {16, 5, impl.Frac{Top: 2, Bottom: 11}}, {3, 10, impl.Frac{Top: 1, Bottom: 1000}}, {10, 2, impl.Frac{Top: 1, Bottom: 13}},
	} {
		wantApart(t, fmt.Sprint(x), func() [][]int {
			var lists [][]int
			for range 2 {
				lists = append(lists, partList(t, x.b, x.f, x.k)...)
				sum, _ := impl.PartSum(x.b, x.f, x.k)
				all, _ := impl.PartAll(x.b, x.f.Bottom)
				lists = append(lists, partRests(t, x.b, x.f, x.k), sum, all)
			}
			return lists
		})
	}
	// The list of parts is new memory too.
	f := impl.Frac{Top: 1, Bottom: 7}
	list := partList(t, 10, f, 3)
	clear(list[:cap(list)])
	if other := partList(t, 10, f, 3); !slices.EqualFunc(other, [][]int{{1, 4}, {2, 8}, {5, 7}}, slices.Equal) {
		t.Errorf("PartList(10, %v, 3) = %v after the result of another call was cleared", f, other)
	}
}

// TestPartsAppended checks that appending to one part does not change the next one.
func TestPartsAppended(t *testing.T) {
	eachCut(func(b int, f impl.Frac, k int, want [][]int) {
		if f.Bottom > 48 && f.Bottom < 990 {
			return
		}
		list := partList(t, b, f, k)
		for i := range list {
			_ = append(list[i], -1)
		}
		if !slices.EqualFunc(list, want, slices.Equal) {
			t.Fatalf("PartList(%d, %v, %d) is %v after something was appended to each part", b, f, k, list)
		}
	})
}
