package tests

import (
	"fmt"
	"math"
	"slices"
	"sync"
	"testing"

	"loop.example/fractionrounds/impl"
)

// wildTops are no tops of values.
var wildTops = []int{math.MinInt, math.MinInt + 1, -1000000, -10002, -10001, 10001, 10002, 1000000, math.MaxInt - 1, math.MaxInt}

// wildUnder are no bottoms of values in any base.
var wildUnder = []int{math.MinInt, math.MinInt + 1, -1001, -1000, -7, -2, -1, 0, 1001, 1002, 1003, math.MaxInt - 1, math.MaxInt}

// wildRight are no numbers of right digits or tops.
var wildRight = []int{math.MinInt, math.MinInt + 1, -200, -2, -1, 201, 202, 1000, math.MaxInt - 1, math.MaxInt}

// wildRest are no numbers of digits for RightRest.
var wildRest = []int{math.MinInt, math.MinInt + 1, -4, -2, -1, 5, 6, 64, 200, 201, math.MaxInt - 1, math.MaxInt}

// goodTops are tops of values over all bottoms.
var goodTops = []int{-10000, -9999, -7, -1, 0, 1, 7, 9999, 10000}

// wantNoDigits checks that RightDigits and RightTops fail with zero values.
func wantNoDigits(t *testing.T, b, top, bottom, k int) {
	t.Helper()
	name := fmt.Sprintf("(%d, %d, %d, %d)", b, top, bottom, k)
	endsInTime(t, name, func() {
		if digits, ok := impl.RightDigits(b, top, bottom, k); ok || len(digits) != 0 {
			t.Errorf("RightDigits%s = %v, %v", name, digits, ok)
		}
		if tops, ok := impl.RightTops(b, top, bottom, k); ok || len(tops) != 0 {
			t.Errorf("RightTops%s = %v, %v", name, tops, ok)
		}
	})
}

// wantNoRest checks that RightRest fails with a zero value.
func wantNoRest(t *testing.T, b, top, bottom, k int) {
	t.Helper()
	name := fmt.Sprintf("RightRest(%d, %d, %d, %d)", b, top, bottom, k)
	endsInTime(t, name, func() {
		rest, ok := impl.RightRest(b, top, bottom, k)
		wantNumber(t, name, rest, ok, 0, false)
	})
}

// wantNoValue checks that nothing is told of what is no value.
func wantNoValue(t *testing.T, b, top, bottom int) {
	t.Helper()
	for _, k := range []int{0, 1, 4, 200, -1, 201} {
		wantNoDigits(t, b, top, bottom, k)
		wantNoRest(t, b, top, bottom, k)
	}
	name := fmt.Sprintf("(%d, %d, %d)", b, top, bottom)
	endsInTime(t, name, func() {
		if n, m, ok := impl.RightLengths(b, top, bottom); ok || n != 0 || m != 0 {
			t.Errorf("RightLengths%s = %d, %d, %v", name, n, m, ok)
		}
		if impl.RightWhole(b, top, bottom) {
			t.Errorf("RightWhole%s holds", name)
		}
	})
}

// wantNoNegative checks that RightNegative fails with zero values.
func wantNoNegative(t *testing.T, b int, f impl.Frac) {
	t.Helper()
	name := fmt.Sprintf("RightNegative(%d, %v)", b, f)
	endsInTime(t, name, func() {
		if digits, ok := impl.RightNegative(b, f); ok || len(digits) != 0 {
			t.Errorf("%s = %v, %v", name, digits, ok)
		}
	})
}

func TestRightNoBase(t *testing.T) {
	for _, b := range wildBases {
		for _, bottom := range slices.Concat([]int{1, 7, 999, 1000}, wildUnder) {
			for _, top := range append([]int{math.MinInt, math.MaxInt, b}, goodTops...) {
				wantNoValue(t, b, top, bottom)
			}
		}
		for _, f := range slices.Concat(goodFracs, wildFracs, []impl.Frac{zeroFrac}) {
			wantNoNegative(t, b, f)
		}
	}
}

func TestRightNoTop(t *testing.T) {
	for b := leastBase; b <= greatestBase; b++ {
		for _, top := range wildTops {
			for _, bottom := range []int{1, b - 1, b + 1, 991, 997, 0, -1, 1001, math.MinInt, math.MaxInt} {
				wantNoValue(t, b, top, bottom)
			}
		}
	}
}

// TestRightNoBottom asks for bottoms that are none in any base, those just greater than BottomMax that are prime to the base among them.
func TestRightNoBottom(t *testing.T) {
	for b := leastBase; b <= greatestBase; b++ {
		for _, bottom := range wildUnder {
			for _, top := range append([]int{bottom, -bottom}, goodTops...) {
				wantNoValue(t, b, top, bottom)
			}
		}
		for bottom := bottomMax + 1; bottom <= bottomMax+20; bottom++ {
			wantNoValue(t, b, 1, bottom)
			wantNoValue(t, b, bottom, bottom)
		}
	}
}

// TestRightCommonDivisor asks for all bottoms that have a common divisor greater than 1 with the base, with tops that have it too, and with 0.
func TestRightCommonDivisor(t *testing.T) {
	eachBottom(func(b, bottom int) {
		if divisor(b, bottom) == 1 {
			return
		}
		for _, top := range []int{0, 1, -bottom} {
			if n, m, ok := impl.RightLengths(b, top, bottom); ok || n != 0 || m != 0 || impl.RightWhole(b, top, bottom) {
				t.Fatalf("RightLengths(%d, %d, %d) = %d, %d, %v, or RightWhole holds", b, top, bottom, n, m, ok)
			}
		}
		if bottom > 60 && bottom < 990 {
			return
		}
		for _, top := range goodTops {
			wantNoValue(t, b, top, bottom)
		}
		for _, f := range []impl.Frac{{Top: 1, Bottom: bottom}, {Top: bottom - 1, Bottom: bottom}} {
			wantNoNegative(t, b, f)
		}
	})
}

// TestRightNoNumber asks for numbers of digits that are not told, of values for which all that are told succeed.
func TestRightNoNumber(t *testing.T) {
	for b := leastBase; b <= greatestBase; b++ {
		for _, bottom := range []int{1, b - 1, b + 1, 991, 997} {
			for _, top := range goodTops {
				for _, k := range wildRight {
					wantNoDigits(t, b, top, bottom, k)
				}
				for _, k := range wildRest {
					wantNoRest(t, b, top, bottom, k)
				}
				for _, k := range []int{0, 1, 199, 200} {
					rightDigits(t, b, top, bottom, k)
					rightTops(t, b, top, bottom, k)
				}
				if rest := rightRest(t, b, top, bottom, 0); rest != 0 {
					t.Errorf("RightRest(%d, %d, %d, 0) = %d", b, top, bottom, rest)
				}
			}
		}
	}
}

// TestRightNegativeNoFraction asks for pairs that are no fractions, values with the sign not turned among them.
func TestRightNegativeNoFraction(t *testing.T) {
	for b := leastBase; b <= greatestBase; b++ {
		for _, f := range wildFracs {
			wantNoNegative(t, b, f)
		}
		for _, bottom := range []int{b - 1, b + 1, 991, 997, 999, 1000, 1001, 1003, 1009} {
			for _, top := range []int{-bottom, -1, bottom, bottom + 1, 10000} {
				wantNoNegative(t, b, impl.Frac{Top: top, Bottom: bottom})
			}
		}
		got := rightNegative(t, b, zeroFrac)
		wantList(t, fmt.Sprintf("RightNegative(%d, %v)", b, zeroFrac), got, true, []int{0})
	}
}

// TestRightSameAnswers asks the same again and again, alone and by many at once, with other questions between.
func TestRightSameAnswers(t *testing.T) {
	ask := func(b, top, bottom, k int) string {
		digits, ok1 := impl.RightDigits(b, top, bottom, k)
		tops, ok2 := impl.RightTops(b, top, bottom, k)
		n, m, ok3 := impl.RightLengths(b, top, bottom)
		rest, ok4 := impl.RightRest(b, top, bottom, k)
		negative, ok5 := impl.RightNegative(b, impl.Frac{Top: top, Bottom: bottom})
		return fmt.Sprint(digits, tops, n, m, rest, negative, ok1, ok2, ok3, ok4, ok5, impl.RightWhole(b, top, bottom))
	}
	askAll := func() []string {
		var answers []string
		for b := leastBase - 1; b <= greatestBase+1; b++ {
			for _, top := range []int{-10001, -10000, -1, 0, 1, 6, 10000, 10001} {
				for _, bottom := range []int{0, 1, 3, 7, 20, 983, 1000, 1001} {
					for _, k := range []int{-1, 0, 4, 200, 201} {
						answers = append(answers, ask(b, top, bottom, k))
					}
				}
			}
		}
		return answers
	}
	want := askAll()
	var askers sync.WaitGroup
	answers := make([][]string, 8)
	for i := range answers {
		askers.Go(func() { answers[i] = askAll() })
	}
	askers.Wait()
	for _, answer := range append(answers, askAll()) {
		if !slices.Equal(answer, want) {
			t.Fatal("the same questions have other answers")
		}
	}
}

// TestRightResultsShareNoMemory spoils each result, and looks at those of other calls, and at the numbers told of the same values.
func TestRightResultsShareNoMemory(t *testing.T) {
	numbers := func(b int, f impl.Frac) string {
		n, m := rightLengths(t, b, -f.Top, f.Bottom)
		return fmt.Sprint(n, m, rightRest(t, b, -f.Top, f.Bottom, greatestRest), impl.RightWhole(b, -f.Top, f.Bottom))
	}
	for b := leastBase; b <= greatestBase; b++ {
		for _, f := range []impl.Frac{zeroFrac, {Top: 1, Bottom: b + 1}, {Top: b, Bottom: b + 1}, {Top: 1, Bottom: 17}, {Top: 5, Bottom: 983}, {Top: 996, Bottom: 997}} {
			want := numbers(b, f)
			wantApart(t, fmt.Sprintf("(%d, %v)", b, f), func() [][]int {
				var lists [][]int
				for range 2 {
					lists = append(lists,
						rightDigits(t, b, -f.Top, f.Bottom, 9), rightDigits(t, b, -f.Top, f.Bottom, greatestRight),
						rightTops(t, b, -f.Top, f.Bottom, 9), rightTops(t, b, -f.Top, f.Bottom, greatestRight),
						rightNegative(t, b, f), round(t, b, f))
				}
				return lists
			})
			if other := numbers(b, f); other != want {
				t.Errorf("of %v in base %d the numbers are %s, and then %s", f, b, want, other)
			}
		}
	}
}
