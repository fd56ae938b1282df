package tests

import (
	"fmt"
	"slices"
	"sync"
	"testing"

	"loop.example/fractionrounds/impl"
)

// wantNoCounts checks that each function of a base and a fraction fails with zero values.
func wantNoCounts(t *testing.T, b int, f impl.Frac) {
	t.Helper()
	name := fmt.Sprintf("(%d, %v)", b, f)
	endsInTime(t, name, func() {
		if counts, ok := impl.CountDigits(b, f); ok || len(counts) != 0 {
			t.Errorf("CountDigits%s = %v, %v", name, counts, ok)
		}
		sum, ok := impl.CountSum(b, f)
		wantNumber(t, "CountSum"+name, sum, ok, 0, false)
		most, ok := impl.CountMost(b, f)
		wantNumber(t, "CountMost"+name, most, ok, 0, false)
		runs, ok := impl.CountRuns(b, f)
		wantNumber(t, "CountRuns"+name, runs, ok, 0, false)
		pairs, ok := impl.CountPairs(b, f)
		wantNumber(t, "CountPairs"+name, pairs, ok, 0, false)
	})
}

// wantNoFull checks that CountFull fails with zero values.
func wantNoFull(t *testing.T, b, p, digit int) {
	t.Helper()
	name := fmt.Sprintf("CountFull(%d, %d, %d)", b, p, digit)
	endsInTime(t, name, func() {
		count, ok := impl.CountFull(b, p, digit)
		wantNumber(t, name, count, ok, 0, false)
	})
}

func TestCountsNoBase(t *testing.T) {
	for _, b := range wildBases {
		for _, f := range slices.Concat(goodFracs, wildFracs, []impl.Frac{zeroFrac}) {
			wantNoCounts(t, b, f)
		}
		for _, p := range slices.Concat(smallPrimes()[:20], goodBottoms, wildBottoms) {
			for _, digit := range append([]int{0, 1, b - 1}, wildDigits(b)...) {
				wantNoFull(t, b, p, digit)
			}
		}
	}
}

func TestCountsNoFraction(t *testing.T) {
	for b := leastBase; b <= greatestBase; b++ {
		for _, f := range wildFracs {
			wantNoCounts(t, b, f)
		}
		for bottom := bottomMax + 1; bottom <= bottomMax+30; bottom++ {
			wantNoCounts(t, b, impl.Frac{Top: 1, Bottom: bottom})
			wantNoCounts(t, b, impl.Frac{Top: bottom - 1, Bottom: bottom})
		}
	}
}

// TestCountFullNoPrime asks for numbers that are less than 2 or greater than BottomMax, for some greater primes that are full in some bases, and for the base and powers of it.
func TestCountFullNoPrime(t *testing.T) {
	for b := leastBase; b <= greatestBase; b++ {
		for _, p := range slices.Concat([]int{-983, -17, -3, 1009, 1013, 1019, 1021, 1033, 1051, 1063, 1069, 1087, 1091, 1097, b, b * b, -b}, wildBottoms) {
			for digit := range b {
				wantNoFull(t, b, p, digit)
			}
			for _, digit := range wildDigits(b) {
				wantNoFull(t, b, p, digit)
			}
		}
	}
}

// TestCountFullNoDigit asks for numbers that are no digits, of all primes, full or not.
func TestCountFullNoDigit(t *testing.T) {
	for b := leastBase; b <= greatestBase; b++ {
		for _, p := range smallPrimes() {
			for _, digit := range append([]int{-16, b + 2, 16, 256, 257, 1000}, wildDigits(b)...) {
				wantNoFull(t, b, p, digit)
			}
		}
	}
}

// TestCountsSameAnswers asks the same again and again, alone and by many at once, with other questions between.
func TestCountsSameAnswers(t *testing.T) {
	ask := func(b int, f impl.Frac) string {
		counts, ok := impl.CountDigits(b, f)
		text := fmt.Sprint(counts, ok)
		for _, call := range []func(b int, f impl.Frac) (int, bool){
			impl.CountSum, impl.CountMost, impl.CountRuns, impl.CountPairs,
			func(b int, f impl.Frac) (int, bool) { return impl.CountFull(b, f.Bottom, b/2) },
		} {
			number, ok := call(b, f)
			text += fmt.Sprint(" ", number, ok)
		}
		return text
	}
	askAll := func() []string {
		var answers []string
		for b := leastBase - 1; b <= greatestBase+1; b++ {
			for _, f := range []impl.Frac{zeroFrac, {Top: 1, Bottom: 2}, {Top: 1, Bottom: 7}, {Top: 6, Bottom: 7}, {Top: 1, Bottom: 12}, {Top: 31, Bottom: 259}, {Top: 1, Bottom: 983}, {Top: 999, Bottom: 1000}, {Top: 2, Bottom: 4}, {Top: 1, Bottom: 0}} {
				answers = append(answers, ask(b, f))
			}
		}
		return answers
	}
	want := askAll()
	var askers sync.WaitGroup
	answers := make([][]string, 12)
	for i := range answers {
		askers.Go(func() { answers[i] = askAll() })
	}
	askers.Wait()
	for _, answer := range append(answers, askAll()) {
		if !slices.Equal(answer, want) {
			t.Fatalf("the answers are %v and %v", want, answer)
		}
	}
}

// TestCountResultsShareNoMemory spoils each result, and looks at those of other calls, and at the numbers told of the same rounds.
func TestCountResultsShareNoMemory(t *testing.T) {
	for b := leastBase; b <= greatestBase; b++ {
		for _, f := range []impl.Frac{zeroFrac, {Top: 1, Bottom: 7}, {Top: 6, Bottom: 7}, {Top: 1, Bottom: 12}, {Top: 5, Bottom: 983}, {Top: 999, Bottom: 1000}} {
			numbers := countNumbers(t, b, f)
			wantApart(t, fmt.Sprintf("(%d, %v)", b, f), func() [][]int {
				digits := round(t, b, f)
				counts, again := countDigits(t, b, f), countDigits(t, b, f)
				full := make([]int, b)
				for digit := range full {
					full[digit], _ = impl.CountFull(b, f.Bottom, digit)
				}
				return [][]int{digits, counts, again, full}
			})
			if other := countNumbers(t, b, f); other != numbers {
				t.Errorf("of %v in base %d the numbers are %v, and then %v", f, b, numbers, other)
			}
		}
	}
}
