package tests

import (
	"fmt"
	"math"
	"slices"
	"testing"

	"loop.example/fractionrounds/impl"
)

// wildBottoms are bottoms without rounds of tops in any base.
var wildBottoms = []int{math.MinInt, math.MinInt + 1, -1000, -7, -2, -1, 0, 1, 1001, 1002, 1003, math.MaxInt - 1, math.MaxInt}

// stopOnPanic fails a test that panics, and tells what it was about.
func stopOnPanic(t *testing.T, name string) {
	if p := recover(); p != nil {
		t.Fatalf("%s: panic: %v", name, p)
	}
}

// wantRestsFail checks that each function of chapter 2 with a base and a fraction fails with zero values.
func wantRestsFail(t *testing.T, b int, f impl.Frac) {
	t.Helper()
	name := fmt.Sprintf("(%d, %v)", b, f)
	defer stopOnPanic(t, name)
	list, ok := impl.RestList(b, f)
	wantNoList(t, "RestList"+name, list, ok)
	list, ok = impl.RestRound(b, f)
	wantNoList(t, "RestRound"+name, list, ok)
	for _, k := range append([]int{180}, wildNumbers...) {
		wantShiftFails(t, b, f, k)
	}
	for _, g := range []impl.Frac{f, zeroFrac, {Top: 1, Bottom: 2}, {Top: 1, Bottom: 7}, {Top: 999, Bottom: 1000}} {
		if impl.RestSame(b, f, g) || impl.RestSame(b, g, f) {
			t.Fatalf("RestSame%s with %v, or the other way about, holds", name, g)
		}
	}
}

func wantShiftFails(t *testing.T, b int, f impl.Frac, k int) {
	t.Helper()
	name := fmt.Sprintf("RestShift(%d, %v, %d)", b, f, k)
	defer stopOnPanic(t, name)
	if g, ok := impl.RestShift(b, f, k); ok || g != (impl.Frac{}) {
		t.Fatalf("%s = %v, %v", name, g, ok)
	}
}

func wantRoundsFail(t *testing.T, b, n int) {
	t.Helper()
	name := fmt.Sprintf("(%d, %d)", b, n)
	defer stopOnPanic(t, name)
	if rounds, ok := impl.RestRounds(b, n); ok || len(rounds) != 0 {
		t.Fatalf("RestRounds%s = %v, %v", name, rounds, ok)
	}
	if many, length, ok := impl.RestMany(b, n); ok || many != 0 || length != 0 {
		t.Fatalf("RestMany%s = %d, %d, %v", name, many, length, ok)
	}
}

func TestRestsNoBase(t *testing.T) {
	fracs := append(slices.Clone(wildFracs), zeroFrac, impl.Frac{Top: 1, Bottom: 2}, impl.Frac{Top: 1, Bottom: 7}, impl.Frac{Top: 999, Bottom: 1000})
	for _, b := range wildBases {
		for _, f := range fracs {
			wantRestsFail(t, b, f)
		}
		for _, n := range append([]int{2, 3, 7, 997, 999, 1000}, wildBottoms...) {
			wantRoundsFail(t, b, n)
		}
	}
}

func TestRestsNoFraction(t *testing.T) {
	for _, f := range wildFracs {
		for b := leastBase; b <= greatestBase; b++ {
			wantRestsFail(t, b, f)
		}
		if g, ok := impl.RestOther(f); ok || g != (impl.Frac{}) {
			t.Errorf("RestOther(%v) = %v, %v", f, g, ok)
		}
	}
}

func TestRestShiftNoCount(t *testing.T) {
	for b := leastBase; b <= greatestBase; b++ {
		for _, f := range []impl.Frac{zeroFrac, {Top: 1, Bottom: 6}, {Top: 1, Bottom: 7}, {Top: 999, Bottom: 1000}} {
			for _, k := range []int{math.MinInt, math.MinInt + 1, -200, -1, 201, 202, 1000, 1000001, math.MaxInt - 1, math.MaxInt} {
				wantShiftFails(t, b, f, k)
			}
		}
	}
}

func TestRestRoundsNoBottom(t *testing.T) {
	for b := leastBase; b <= greatestBase; b++ {
		for _, n := range wildBottoms {
			wantRoundsFail(t, b, n)
		}
		for _, n := range []int{b, 2 * b, 12 * b, 60 * b} {
			wantRoundsFail(t, b, n)
		}
	}
}

// wantApart spoils each list of the results and looks at the others; call must make all results anew.
func wantApart(t *testing.T, name string, call func() [][]int) {
	t.Helper()
	want := call()
	for i := range want {
		want[i] = slices.Clone(want[i])
	}
	for spoiled := range want {
		results := call()
		spoil(results[spoiled])
		for i, result := range results {
			if i != spoiled && !slices.Equal(result, want[i]) {
				t.Fatalf("%s: list %d shares memory with list %d", name, i, spoiled)
			}
		}
		if !slices.EqualFunc(call(), want, slices.Equal) {
			t.Fatalf("%s: list %d is kept between calls", name, spoiled)
		}
	}
}

// TestRestResultsShareNoMemory checks the results of RestList and RestRound, of one call and of several.
func TestRestResultsShareNoMemory(t *testing.T) {
	for _, f := range []impl.Frac{zeroFrac, {Top: 1, Bottom: 7}, {Top: 1, Bottom: 12}, {Top: 999, Bottom: 1000}, {Top: 5, Bottom: 983}} {
		wantApart(t, fmt.Sprint(f), func() [][]int {
			list, _ := impl.RestList(10, f)
			again, _ := impl.RestRound(10, f)
			list2, _ := impl.RestList(10, f)
			again2, _ := impl.RestRound(10, f)
			return [][]int{list, again, list2, again2}
		})
	}
}

// TestRestRoundsShareNoMemory checks the rounds of one result, and those of two.
func TestRestRoundsShareNoMemory(t *testing.T) {
	for _, x := range [][2]int{{3, 2}, {10, 9}, {10, 13}, {2, 7}, {16, 17}, {16, 255}, {3, 1000}} {
		wantApart(t, fmt.Sprint(x), func() [][]int {
			rounds, _ := impl.RestRounds(x[0], x[1])
			others, _ := impl.RestRounds(x[0], x[1])
			return slices.Concat(rounds, others)
		})
	}
	// The list of rounds is new memory too.
	rounds, _ := impl.RestRounds(10, 13)
	clear(rounds[:cap(rounds)])
	if others, ok := impl.RestRounds(10, 13); !ok || len(others) != 2 || len(others[0]) != 6 {
		t.Errorf("RestRounds(10, 13) = %v, %v after the result of another call was cleared", others, ok)
	}
}
