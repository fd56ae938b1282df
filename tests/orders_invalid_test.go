package tests

import (
	"fmt"
	"math"
	"slices"
	"sync"
	"testing"
	"testing/synctest"
	"time"

	"loop.example/fractionrounds/impl"
)

// wildLengths are no lengths of a round for OrderBases.
var wildLengths = []int{math.MinInt, math.MinInt + 1, -1000, -2, -1, 0, 1001, 1002, math.MaxInt - 1, math.MaxInt}

// goodBottoms are numbers for the functions of chapter 3: primes, powers, the greatest one, and ones that have and have not a common divisor with bases.
var goodBottoms = []int{2, 3, 4, 5, 7, 9, 10, 12, 16, 30, 512, 625, 720, 983, 997, 999, 1000}

// endsInTime runs a call, and fails a test in which it panics or does not end.
func endsInTime(t *testing.T, name string, call func()) {
	t.Helper()
	done := make(chan any, 1)
	go func() {
		defer func() { done <- recover() }()
		call()
	}()
	select {
	case p := <-done:
		if p != nil {
			t.Fatalf("%s: panic: %v", name, p)
		}
	case <-time.After(time.Minute):
		t.Fatalf("%s does not end", name)
	}
}

// orderAnswers are the results of all functions of chapter 3.
type orderAnswers struct {
	of, units, most, ones, first, second, begin                   int
	full, bases                                                   []int
	okOf, okUnits, okMost, okOnes, okSplit, okBegin, okFull, okBs bool
}

func askOrders(b, n, k int) orderAnswers {
	var x orderAnswers
	x.of, x.okOf = impl.OrderOf(b, n)
	x.units, x.okUnits = impl.OrderUnits(n)
	x.most, x.okMost = impl.OrderMost(n)
	x.full, x.okFull = impl.OrderFull(b, n)
	x.ones, x.okOnes = impl.OrderOnes(b, n)
	x.first, x.second, x.okSplit = impl.OrderSplit(b, n)
	x.begin, x.okBegin = impl.OrderBegin(b, n)
	x.bases, x.okBs = impl.OrderBases(n, k)
	return x
}

// checkFailures checks which functions fail, and that those have zero values beside false.
func checkFailures(t *testing.T, b, n, k int) {
	t.Helper()
	name := fmt.Sprintf("base %d, n %d, k %d", b, n, k)
	goodBase, goodN, goodK := b >= leastBase && b <= greatestBase, n >= 2 && n <= bottomMax, k >= 1 && k <= bottomMax
	var x orderAnswers
	endsInTime(t, name, func() { x = askOrders(b, n, k) })
	both := goodBase && goodN
	apart := both && divisor(b, n) == 1
	for _, y := range []struct {
		function string
		ok, want bool
		zero     bool
	}{
		{"OrderOf", x.okOf, apart, x.of == 0},
		{"OrderUnits", x.okUnits, goodN, x.units == 0},
		{"OrderMost", x.okMost, goodN, x.most == 0},
		{"OrderFull", x.okFull, both, len(x.full) == 0},
		{"OrderOnes", x.okOnes, apart, x.ones == 0},
		{"OrderSplit", x.okSplit, both, x.first == 0 && x.second == 0},
		{"OrderBegin", x.okBegin, both, x.begin == 0},
		{"OrderBases", x.okBs, goodN && goodK, len(x.bases) == 0},
	} {
		if y.ok != y.want {
			t.Fatalf("%s for %s returned %v", y.function, name, y.ok)
		}
		if !y.ok && !y.zero {
			t.Fatalf("%s for %s fails with values that are not zero: %+v", y.function, name, x)
		}
	}
}

func TestOrdersNoBase(t *testing.T) {
	for _, b := range wildBases {
		for _, n := range slices.Concat(goodBottoms, wildBottoms) {
			checkFailures(t, b, n, 1)
		}
	}
}

func TestOrdersNoBottom(t *testing.T) {
	for b := leastBase; b <= greatestBase; b++ {
		for _, n := range wildBottoms {
			checkFailures(t, b, n, 1)
		}
	}
}

func TestOrdersNoLength(t *testing.T) {
	for _, n := range slices.Concat(goodBottoms, wildBottoms) {
		for _, k := range append([]int{1, 2, 1000}, wildLengths...) {
			checkFailures(t, 10, n, k)
		}
	}
}

// TestOrdersCommonDivisor checks that just OrderOf and OrderOnes fail for all numbers with a common divisor with the base.
func TestOrdersCommonDivisor(t *testing.T) {
	for b := leastBase; b <= greatestBase; b++ {
		for _, n := range append([]int{b, 2 * b, b * b, 12 * b, 60 * b, 61 * b}, goodBottoms...) {
			checkFailures(t, b, n, 1)
		}
	}
}

// TestOrdersSameAnswers asks again and again, alone and by many at once.
func TestOrdersSameAnswers(t *testing.T) {
	for _, x := range [][3]int{{3, 2, 1}, {2, 2, 1}, {10, 7, 6}, {10, 12, 1}, {16, 720, 4}, {2, 983, 982}, {10, 997, 166}, {3, 1000, 100}, {10, 1, 1}, {17, 1001, 0}} {
		ask := func() string { return fmt.Sprintf("%+v", askOrders(x[0], x[1], x[2])) }
		want := ask()
		var askers sync.WaitGroup
		answers := make([]string, 40)
		for i := range answers {
			askers.Go(func() { answers[i] = ask() })
		}
		askers.Wait()
		for range 10 {
			answers = append(answers, ask())
		}
		for _, answer := range answers {
			if answer != want {
				t.Fatalf("for %v the answers are %s and %s", x, want, answer)
			}
		}
	}
}

// TestOrdersLeaveNoGoroutine runs the functions in bubbles, which end by a panic if all that is left in them waits for ever.
func TestOrdersLeaveNoGoroutine(t *testing.T) {
	for _, x := range [][3]int{{3, 2, 1}, {2, 2, 1}, {10, 7, 6}, {10, 12, 1}, {16, 720, 4}, {2, 983, 982}, {10, 997, 166}, {3, 1000, 1000}, {10, 1, 1}, {17, 1001, 0}, {2, 7, 0}} {
		synctest.Test(t, func(t *testing.T) {
			askOrders(x[0], x[1], x[2])
			synctest.Wait()
		})
	}
}

// TestOrderResultsShareNoMemory checks the lists of OrderFull and OrderBases, of one call and of several.
func TestOrderResultsShareNoMemory(t *testing.T) {
	for _, x := range [][3]int{{3, 2, 1}, {10, 100, 1}, {2, 1000, 100}, {16, 17, 2}, {10, 7, 6}, {10, 1000, 1}} {
		wantApart(t, fmt.Sprint(x), func() [][]int {
			one, two := askOrders(x[0], x[1], x[2]), askOrders(x[0], x[1], x[2])
			return [][]int{one.full, one.bases, two.full, two.bases}
		})
	}
}
