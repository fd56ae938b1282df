package tests

import (
	"fmt"
	"math"
	"slices"
	"testing"

	"loop.example/fractionrounds/impl"
)

// wildSumTimes are no numbers to multiply a fraction by.
var wildSumTimes = []int{math.MinInt, math.MinInt + 1, -1001, -1000, -7, -2, -1, 1001, 1002, 1024, 1000000, math.MaxInt - 1, math.MaxInt}

// wantNoSum checks that SumOf fails with zero values for both ways to ask.
func wantNoSum(t *testing.T, f, g impl.Frac) {
	t.Helper()
	name := fmt.Sprintf("SumOf of %v and %v", f, g)
	endsInTime(t, name, func() {
		if sum, ok := impl.SumOf(f, g); ok || sum != (impl.Frac{}) {
			t.Errorf("%s = %v, %v", name, sum, ok)
		}
		if sum, ok := impl.SumOf(g, f); ok || sum != (impl.Frac{}) {
			t.Errorf("%s = %v, %v for both exchanged", name, sum, ok)
		}
	})
}

func wantNoTimes(t *testing.T, f impl.Frac, k int) {
	t.Helper()
	name := fmt.Sprintf("SumTimes(%v, %d)", f, k)
	endsInTime(t, name, func() {
		if product, ok := impl.SumTimes(f, k); ok || product != (impl.Frac{}) {
			t.Errorf("%s = %v, %v", name, product, ok)
		}
	})
}

// wantNoPair checks that nothing is told of two fractions in a base, for both ways to ask.
func wantNoPair(t *testing.T, b int, f, g impl.Frac) {
	t.Helper()
	name := fmt.Sprintf("in base %d of %v and %v", b, f, g)
	endsInTime(t, name, func() {
		for range 2 {
			if length, ok := impl.SumLengths(b, f, g); ok || length != 0 {
				t.Errorf("SumLengths %s = %d, %v", name, length, ok)
			}
			if impl.SumLess(b, f, g) {
				t.Errorf("SumLess %s holds", name)
			}
			f, g = g, f
		}
	})
}

// wantNoRound checks that SumRound fails with zero values for both ways to ask.
func wantNoRound(t *testing.T, b int, x, y []int) {
	t.Helper()
	name := fmt.Sprintf("SumRound in base %d of %s and %s", b, shown(x), shown(y))
	endsInTime(t, name, func() {
		if sum, ok := impl.SumRound(b, x, y); ok || len(sum) != 0 {
			t.Errorf("%s = %v, %v", name, sum, ok)
		}
		if sum, ok := impl.SumRound(b, y, x); ok || len(sum) != 0 {
			t.Errorf("%s = %v, %v for both exchanged", name, sum, ok)
		}
	})
}

// wantNoSumRing checks that a list is no ring for SumOther, nor for SumRound with itself and with a ring of as many digits.
func wantNoSumRing(t *testing.T, b int, d []int) {
	t.Helper()
	wantNoRound(t, b, d, d)
	wantNoRound(t, b, d, make([]int, len(d)))
	name := fmt.Sprintf("SumOther(%d, %s)", b, shown(d))
	endsInTime(t, name, func() {
		if other, ok := impl.SumOther(b, d); ok || len(other) != 0 {
			t.Errorf("%s = %v, %v", name, other, ok)
		}
	})
}

func TestSumsNoBase(t *testing.T) {
	for _, b := range wildBases {
		for _, f := range slices.Concat(goodFracs, wildFracs, []impl.Frac{zeroFrac}) {
			for _, g := range slices.Concat(goodFracs, wildFracs, []impl.Frac{zeroFrac}) {
				wantNoPair(t, b, f, g)
			}
		}
		for _, d := range append([][]int{nil, {b}, {b - 1}, {math.MinInt}, {math.MaxInt}}, binaryRings...) {
			wantNoSumRing(t, b, d)
		}
	}
}

func TestSumsNoFraction(t *testing.T) {
	for _, f := range wildFracs {
		for _, g := range slices.Concat(goodFracs, wildFracs, []impl.Frac{zeroFrac}) {
			wantNoSum(t, f, g)
			for b := leastBase; b <= greatestBase; b++ {
				wantNoPair(t, b, f, g)
			}
		}
		for _, k := range append([]int{0, 1, 2, 7, 999, 1000}, wildSumTimes...) {
			wantNoTimes(t, f, k)
		}
	}
}

// TestSumsGreaterBottom asks for sums whose bottoms are just greater than BottomMax, and for the fractions over it.
func TestSumsGreaterBottom(t *testing.T) {
	for bottom := bottomMax + 1; bottom <= bottomMax+40; bottom++ {
		for first := 2; first < bottom; first++ {
			second := bottom / first
			if first*second != bottom || divisor(first, second) != 1 {
				continue
			}
			wantNoSum(t, impl.Frac{Top: 1, Bottom: first}, impl.Frac{Top: 1, Bottom: second})
			wantNoSum(t, impl.Frac{Top: first - 1, Bottom: first}, impl.Frac{Top: second - 1, Bottom: second})
		}
		wantNoSum(t, zeroFrac, impl.Frac{Top: 1, Bottom: bottom})
		wantNoSum(t, impl.Frac{Top: 1, Bottom: bottom}, impl.Frac{Top: bottom - 1, Bottom: bottom})
	}
}

func TestSumTimesNoNumber(t *testing.T) {
	for _, f := range append([]impl.Frac{zeroFrac}, goodFracs...) {
		for _, k := range wildSumTimes {
			wantNoTimes(t, f, k)
		}
		for _, k := range []int{0, 1, f.Bottom, 1000} {
			if product, ok := impl.SumTimes(f, k); !ok || !impl.FracIn(product) || k%f.Bottom == 0 && product != zeroFrac {
				t.Errorf("SumTimes(%v, %d) = %v, %v", f, k, product, ok)
			}
		}
	}
}

// TestSumRingsLengths asks for rings with different numbers of digits, with none, with as many as a ring may have, and with more.
func TestSumRingsLengths(t *testing.T) {
	for b := leastBase; b <= greatestBase; b++ {
		wantNoSumRing(t, b, nil)
		wantNoSumRing(t, b, []int{})
		for _, n := range []int{251, 252, 500, 100000} {
			wantNoSumRing(t, b, make([]int, n))
			wantNoSumRing(t, b, slices.Repeat([]int{1}, n))
			wantNoSumRing(t, b, mixedRing(b, n))
		}
		numbers := []int{0, 1, 2, 3, 6, 12, 125, 249, 250, 251}
		for _, n := range numbers {
			for _, m := range numbers {
				if n != m {
					wantNoRound(t, b, mixedRing(b, n), mixedRing(b, m))
					wantNoRound(t, b, make([]int, n), make([]int, m))
				} else if n > 0 && n <= greatestRing {
					sum := sumRound(t, b, mixedRing(b, n), make([]int, n))
					wantList(t, "SumRound of a ring and 0", sum, true, addedRound(b, mixedRing(b, n), make([]int, n)))
				}
			}
		}
	}
}

// TestSumRingsNoDigit puts numbers that are no digits at each place of short lists, and at some places of long ones; two may add up to a digit.
func TestSumRingsNoDigit(t *testing.T) {
	for b := leastBase; b <= greatestBase; b++ {
		for _, wild := range wildDigits(b) {
			for _, n := range []int{1, 2, 3, 6, 250} {
				for place := range n {
					if place > 2 && place < n-2 && place != n/2 {
						continue
					}
					d, other := slices.Repeat([]int{1}, n), slices.Repeat([]int{1}, n)
					d[place], other[place] = wild, -wild
					wantNoSumRing(t, b, d)
					wantNoRound(t, b, d, other)
				}
			}
		}
	}
}

// TestSumsKeepArguments gives rings with space behind them, which belongs to the caller too.
func TestSumsKeepArguments(t *testing.T) {
	for _, x := range []struct {
		list []int
		n    int
	}{
		{[]int{9, 5, 1, 7, 3}, 2}, {[]int{9, 9, 9, 0, 0, 0, 5}, 3}, {[]int{1, 4, 2, 8, 5, 7, 8, 5, 7, 1, 4, 2}, 6}, {[]int{5, 5, 7}, 1}, {[]int{0, 10, 3, 3, 3}, 2}, {mixedRing(10, 600), 250}, {mixedRing(10, 600), 251},
	} {
		list := slices.Clone(x.list)
		// Both rings stand in one list, and one begins in the other.
		first, second, middle := list[:x.n], list[x.n:2*x.n], list[1:x.n+1]
		impl.SumRound(10, first, second)
		impl.SumRound(10, second, first)
		impl.SumRound(10, first, first)
		impl.SumRound(10, first, middle)
		impl.SumOther(10, first)
		impl.SumOther(10, middle)
		if !slices.Equal(list, x.list) {
			t.Errorf("%s was changed to %s", shown(x.list), shown(list))
		}
		if got, ok := impl.SumRound(10, first, middle); ok && !slices.Equal(got, addedRound(10, first, middle)) {
			t.Errorf("SumRound(10, %s, %s) = %s", shown(first), shown(middle), shown(got))
		}
	}
}

// TestSumsSameAnswers asks the same again, with other questions between.
func TestSumsSameAnswers(t *testing.T) {
	ask := func(b int, f, g impl.Frac, x, y []int) string {
		sum, ok1 := impl.SumOf(f, g)
		product, ok2 := impl.SumTimes(f, b*g.Bottom)
		added, ok3 := impl.SumRound(b, x, y)
		other, ok4 := impl.SumOther(b, x)
		length, ok5 := impl.SumLengths(b, f, g)
		return fmt.Sprint(sum, product, added, other, length, ok1, ok2, ok3, ok4, ok5, impl.SumLess(b, f, g))
	}
	fracs := []impl.Frac{zeroFrac, {Top: 1, Bottom: 7}, {Top: 6, Bottom: 7}, {Top: 1, Bottom: 983}, {Top: 999, Bottom: 1000}, {Top: 2, Bottom: 4}, {Top: 1, Bottom: 0}}
	rings := append([][]int{nil, {1, 4, 2, 8, 5, 7}, {0, 7, 6, 9, 2, 3}, {0, 0, 15}, {-1}, make([]int, 251)}, binaryRings...)
	first := map[string]string{}
	for range 3 {
		for b := leastBase - 1; b <= greatestBase+1; b++ {
			for i, f := range fracs {
				for _, x := range rings {
					g, y := fracs[(i+len(x))%len(fracs)], rings[(i+b)%len(rings)]
					question := fmt.Sprint(b, f, g, x, y)
					answer := ask(b, f, g, x, y)
					if want, asked := first[question]; asked && answer != want {
						t.Fatalf("for %s the answers are %s and %s", question, want, answer)
					}
					first[question] = answer
				}
			}
		}
	}
}

// TestSumResultsShareNoMemory spoils each result, and the rings that were given, and looks at all others.
func TestSumResultsShareNoMemory(t *testing.T) {
	for _, d := range [][]int{{0}, {7}, {9}, {0, 1}, {1, 4, 2, 8, 5, 7}, {0, 7, 6, 9, 2, 3}, {9, 9, 9}, {5, 0, 0, 0}, make([]int, 250), mixedRing(10, 250)} {
		for _, e := range [][]int{d, make([]int, len(d)), otherRing(10, d), slices.Repeat([]int{9}, len(d))} {
			wantApart(t, fmt.Sprintf("%s and %s", shown(d), shown(e)), func() [][]int {
				x, y := slices.Concat(d, d)[:len(d)], slices.Concat(e, e)[:len(e)]
				lists := [][]int{x, y}
				for range 2 {
					other, _ := impl.SumOther(10, x)
					otherY, _ := impl.SumOther(10, y)
					lists = append(lists, other, otherY, sumRound(t, 10, x, y), sumRound(t, 10, y, x), sumRound(t, 10, x, x))
				}
				return lists
			})
		}
	}
}
