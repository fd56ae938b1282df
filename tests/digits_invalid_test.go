package tests

import (
	"fmt"
	"math"
	"slices"
	"testing"

	"loop.example/fractionrounds/impl"
)

var wildNumbers = []int{math.MinInt, math.MinInt + 1, -1000001, -200, -1, 0, 1, 5, 200, 201, 1000000, 1000001, math.MaxInt - 1, math.MaxInt}

// wantAllFail checks that each function of a base and a fraction fails with zero values.
func wantAllFail(t *testing.T, b int, f impl.Frac) {
	t.Helper()
	defer func() {
		if p := recover(); p != nil {
			t.Fatalf("base %d and %v: panic: %v", b, f, p)
		}
	}()
	name := fmt.Sprintf("(%d, %v)", b, f)
	digits, ok := impl.FracBegin(b, f)
	wantNoList(t, "FracBegin"+name, digits, ok)
	digits, ok = impl.FracRound(b, f)
	wantNoList(t, "FracRound"+name, digits, ok)
	if impl.FracEnds(b, f) {
		t.Fatalf("FracEnds%s holds", name)
	}
	if n, m, ok := impl.FracLengths(b, f); ok || n != 0 || m != 0 {
		t.Fatalf("FracLengths%s = %d, %d, %v", name, n, m, ok)
	}
	for _, k := range wildNumbers {
		digits, ok := impl.FracDigits(b, f, k)
		wantNoList(t, fmt.Sprintf("FracDigits%s for %d", name, k), digits, ok)
		if digit, ok := impl.FracDigit(b, f, k); ok || digit != 0 {
			t.Fatalf("FracDigit%s at %d = %d, %v", name, k, digit, ok)
		}
	}
}

func TestNoBase(t *testing.T) {
	fracs := append(slices.Clone(wildFracs), zeroFrac, impl.Frac{Top: 1, Bottom: 2}, impl.Frac{Top: 1, Bottom: 7}, impl.Frac{Top: 999, Bottom: 1000})
	for _, b := range wildBases {
		for _, f := range fracs {
			wantAllFail(t, b, f)
		}
		for _, list := range [][]int{nil, {0}, {1}, {0, 1}, {b}, {math.MinInt}, {math.MaxInt, 0}} {
			wantOfFails(t, b, list, list)
			wantOfFails(t, b, nil, list)
		}
	}
}

func TestNoFraction(t *testing.T) {
	for b := leastBase; b <= greatestBase; b++ {
		for _, f := range wildFracs {
			wantAllFail(t, b, f)
		}
	}
}

func TestNoCountOrPlace(t *testing.T) {
	for b := leastBase; b <= greatestBase; b++ {
		for _, f := range []impl.Frac{zeroFrac, {Top: 1, Bottom: 6}, {Top: 999, Bottom: 1000}} {
			for _, k := range wildNumbers {
				digits, ok := impl.FracDigits(b, f, k)
				if ok != (k >= 0 && k <= greatestK) || ok && len(digits) != k || !ok && len(digits) != 0 {
					t.Errorf("FracDigits(%d, %v, %d) = %v, %v", b, f, k, digits, ok)
				}
				digit, ok := impl.FracDigit(b, f, k)
				if ok != (k >= 0 && k <= greatestPlace) || !ok && digit != 0 {
					t.Errorf("FracDigit(%d, %v, %d) = %d, %v", b, f, k, digit, ok)
				}
			}
		}
	}
}

func wantOfFails(t *testing.T, b int, first, again []int) {
	t.Helper()
	defer func() {
		if p := recover(); p != nil {
			t.Fatalf("FracOf(%d, %v, %v): panic: %v", b, first, again, p)
		}
	}()
	if f, ok := impl.FracOf(b, first, again); ok || f != (impl.Frac{}) {
		t.Fatalf("FracOf(%d, %v, %v) = %v, %v", b, first, again, f, ok)
	}
}

// TestNoDigit puts numbers that are no digits at each place of beginning and round.
func TestNoDigit(t *testing.T) {
	for b := leastBase; b <= greatestBase; b++ {
		for _, wild := range []int{math.MinInt, math.MinInt + 1, -b, -1, b, b + 1, math.MaxInt - 1, math.MaxInt} {
			for length := 1; length <= 6; length++ {
				for place := range length {
					list := make([]int, length)
					list[place] = wild
					for n := range length + 1 {
						wantOfFails(t, b, list[:n], list[n:])
					}
				}
			}
		}
	}
}

func TestFracOfKeepsArguments(t *testing.T) {
	for _, x := range []struct {
		list []int
		n    int
	}{
		{[]int{0, 8, 3, 7, 7}, 2}, {[]int{0, 8, 3, 3, 3}, 3}, {[]int{0, 0, 0, 0, 0}, 4}, {[]int{9, 9, 9, 9, 9}, 2}, {[]int{-1, 10, 3, 5, 6}, 1},
	} {
		list := slices.Clone(x.list)
		// The space behind both lists belongs to the caller too.
		first, again := list[:x.n], list[x.n:x.n+1]
		impl.FracOf(10, first, again)
		impl.FracOf(10, again, first)
		if !slices.Equal(list, x.list) {
			t.Errorf("FracOf changed %v to %v", x.list, list)
		}
	}
	var none []int
	if f, ok := impl.FracOf(10, none, []int{3}); !ok || f != (impl.Frac{Top: 1, Bottom: 3}) {
		t.Errorf("FracOf of a nil beginning is %v, %v", f, ok)
	}
	if f, ok := impl.FracOf(10, []int{}, []int{3}); !ok || f != (impl.Frac{Top: 1, Bottom: 3}) {
		t.Errorf("FracOf of an empty beginning is %v, %v", f, ok)
	}
}

// spoil overwrites a list and all space behind it.
func spoil(list []int) {
	all := list[:cap(list)]
	for i := range all {
		all[i] = -7
	}
}

// TestResultsShareNoMemory spoils each result and looks at the others, and at those of later calls.
func TestResultsShareNoMemory(t *testing.T) {
	calls := []func(f impl.Frac) []int{
		func(f impl.Frac) []int { digits, _ := impl.FracDigits(10, f, 9); return digits },
		func(f impl.Frac) []int { digits, _ := impl.FracDigits(10, f, 200); return digits },
		func(f impl.Frac) []int { return begin(t, 10, f) },
		func(f impl.Frac) []int { return round(t, 10, f) },
	}
	for _, f := range []impl.Frac{zeroFrac, {Top: 1, Bottom: 7}, {Top: 1, Bottom: 12}, {Top: 999, Bottom: 1000}, {Top: 5, Bottom: 983}} {
		for spoiled := range calls {
			var results, kept [][]int
			for _, call := range calls {
				result := call(f)
				results = append(results, result)
				kept = append(kept, slices.Clone(result))
			}
			spoil(results[spoiled])
			for i, call := range calls {
				if i != spoiled && !slices.Equal(results[i], kept[i]) {
					t.Errorf("of %v, result %d shares memory with result %d", f, i, spoiled)
				}
				if !slices.Equal(call(f), kept[i]) {
					t.Errorf("of %v, result %d is kept between calls", f, i)
				}
			}
		}
	}
}
