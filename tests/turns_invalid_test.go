package tests

import (
	"fmt"
	"math"
	"slices"
	"testing"

	"loop.example/fractionrounds/impl"
)

// wildTurns are neither numbers to turn by nor to multiply by.
var wildTurns = []int{math.MinInt, math.MinInt + 1, -250, -100, -6, -1, 251, 252, 256, 1000, math.MaxInt - 1, math.MaxInt}

// wildDigits returns numbers that are no digits of a base.
func wildDigits(b int) []int {
	return []int{math.MinInt, math.MinInt + 1, -b, -1, b, b + 1, math.MaxInt - 1, math.MaxInt}
}

// binaryRings are rings of all bases.
var binaryRings = [][]int{{0}, {1}, {0, 1}, {1, 0}, {1, 1}, {0, 0, 1}, {0, 1, 0, 1}, make([]int, greatestRing), slices.Repeat([]int{0, 1}, greatestRing/2)}

// shown tells a list, and long ones in short.
func shown(d []int) string {
	if len(d) > 12 {
		return fmt.Sprintf("%v... of %d", d[:12], len(d))
	}
	return fmt.Sprint(d)
}

// wantTurnFails checks that TurnBy fails with zero values.
func wantTurnFails(t *testing.T, b int, d []int, k int) {
	t.Helper()
	name := fmt.Sprintf("(%d, %s, %d)", b, shown(d), k)
	endsInTime(t, name, func() {
		if turn, ok := impl.TurnBy(b, d, k); ok || len(turn) != 0 {
			t.Errorf("TurnBy%s = %v, %v", name, turn, ok)
		}
	})
}

// wantTimesFail checks that nothing is told of a ring times a number.
func wantTimesFail(t *testing.T, b int, d []int, k int) {
	t.Helper()
	name := fmt.Sprintf("(%d, %s, %d)", b, shown(d), k)
	endsInTime(t, name, func() {
		if product, ok := impl.TurnTimes(b, d, k); ok || len(product) != 0 {
			t.Errorf("TurnTimes%s = %v, %v", name, product, ok)
		}
		if impl.TurnIs(b, d, k) {
			t.Errorf("TurnIs%s holds", name)
		}
	})
}

// wantNoRing checks that each function of a ring fails with zero values.
func wantNoRing(t *testing.T, b int, d []int) {
	t.Helper()
	for _, k := range append([]int{0, 1, 2, 100, 250}, wildTurns...) {
		wantTurnFails(t, b, d, k)
		wantTimesFail(t, b, d, k)
	}
	name := fmt.Sprintf("(%d, %s)", b, shown(d))
	endsInTime(t, name, func() {
		if all, ok := impl.TurnAll(b, d); ok || len(all) != 0 {
			t.Errorf("TurnAll%s = %v, %v", name, all, ok)
		}
		if least, ok := impl.TurnLeast(b, d); ok || least != 0 {
			t.Errorf("TurnLeast%s = %d, %v", name, least, ok)
		}
	})
}

func wantFindFails(t *testing.T, b, k, d int) {
	t.Helper()
	name := fmt.Sprintf("TurnFind(%d, %d, %d)", b, k, d)
	endsInTime(t, name, func() {
		if round, ok := impl.TurnFind(b, k, d); ok || len(round) != 0 {
			t.Errorf("%s = %v, %v", name, round, ok)
		}
	})
}

func wantCyclicFails(t *testing.T, b, p int) {
	t.Helper()
	name := fmt.Sprintf("TurnCyclic(%d, %d)", b, p)
	endsInTime(t, name, func() {
		if round, ok := impl.TurnCyclic(b, p); ok || len(round) != 0 {
			t.Errorf("%s = %v, %v", name, round, ok)
		}
	})
}

func TestTurnsNoBase(t *testing.T) {
	for _, b := range wildBases {
		for _, d := range append([][]int{nil, {b}, {b - 1}, {math.MinInt}, {math.MaxInt}}, binaryRings...) {
			wantNoRing(t, b, d)
		}
		for _, k := range append([]int{0, 1, 2, 4, 15, 16, b - 1}, wildTurns...) {
			for _, d := range append([]int{0, 1, 2, 4, 15}, wildTurns...) {
				wantFindFails(t, b, k, d)
			}
		}
		for _, p := range append([]int{2, 3, 5, 7, 17, 199, 200, 201}, wildBottoms...) {
			wantCyclicFails(t, b, p)
		}
	}
}

// TestTurnsLengths asks for lists with no digit, with as many as a ring may have, and with more.
func TestTurnsLengths(t *testing.T) {
	for b := leastBase; b <= greatestBase; b++ {
		wantNoRing(t, b, nil)
		wantNoRing(t, b, []int{})
		for _, n := range []int{251, 252, 500, 1000, 100000} {
			wantNoRing(t, b, make([]int, n))
			wantNoRing(t, b, slices.Repeat([]int{1}, n))
			wantNoRing(t, b, mixedRing(b, n))
		}
		for _, n := range []int{1, 249, 250} {
			d := slices.Repeat([]int{1}, n)
			if turn := turnBy(t, b, d, 1); !slices.Equal(turn, d) {
				t.Errorf("TurnBy(%d, %d times 1, 1) = %v", b, n, turn)
			}
			if product, ok := impl.TurnTimes(b, d, b-1); !ok || !slices.Equal(product, slices.Repeat([]int{b - 1}, n)) {
				t.Errorf("TurnTimes(%d, %d times 1, %d) = %v, %v", b, n, b-1, product, ok)
			}
			wantTimesFail(t, b, d, b)
			least, ok := impl.TurnLeast(b, d)
			wantNumber(t, fmt.Sprintf("TurnLeast(%d, %d times 1)", b, n), least, ok, 1, true)
			all, ok := impl.TurnAll(b, d)
			wantList(t, fmt.Sprintf("TurnAll(%d, %d times 1)", b, n), all, ok, []int{1})
		}
	}
}

// TestTurnsNoDigit puts numbers that are no digits at each place of short lists, and at some places of long ones.
func TestTurnsNoDigit(t *testing.T) {
	for b := leastBase; b <= greatestBase; b++ {
		for _, wild := range wildDigits(b) {
			for _, n := range []int{1, 2, 3, 6, 250} {
				for place := range n {
					if place > 2 && place < n-2 && place != n/2 {
						continue
					}
					d := make([]int, n)
					d[place] = wild
					wantNoRing(t, b, d)
				}
			}
		}
	}
}

// TestTurnsNoNumber asks for numbers that are not told, of rings for which all that are told succeed.
func TestTurnsNoNumber(t *testing.T) {
	for b := leastBase; b <= greatestBase; b++ {
		for _, d := range binaryRings {
			for _, k := range wildTurns {
				wantTurnFails(t, b, d, k)
				wantTimesFail(t, b, d, k)
			}
			for k := greatestTimes + 1; k <= greatestTurn; k++ {
				wantTimesFail(t, b, d, k)
			}
			for _, k := range []int{0, len(d), len(d) - 1, greatestTurn} {
				wantList(t, "TurnBy", turnBy(t, b, d, k), true, turnedBy(d, k))
			}
		}
		// 100 is the greatest number told, and its digits fit in each base.
		one := []int{0, 0, 0, 0, 0, 0, 0, 1}
		product, ok := impl.TurnTimes(b, one, greatestTimes)
		wantList(t, fmt.Sprintf("TurnTimes(%d, %v, 100)", b, one), product, ok, timesOf(b, one, greatestTimes))
		if zeros := make([]int, 4); !impl.TurnIs(b, zeros, 0) || !impl.TurnIs(b, zeros, greatestTimes) {
			t.Errorf("TurnIs(%d, %v) does not hold for 0 or 100", b, zeros)
		}
	}
}

func TestTurnFindNoNumber(t *testing.T) {
	for b := leastBase; b <= greatestBase; b++ {
		wild := slices.Concat(wildDigits(b), []int{0}, wildTurns)
		for _, x := range wild {
			for y := 1; y < b; y++ {
				wantFindFails(t, b, x, y)
				wantFindFails(t, b, y, x)
			}
			for _, y := range wild {
				wantFindFails(t, b, x, y)
			}
		}
		wantFindFails(t, b, 1, b-1)
	}
}

func TestTurnCyclicNoNumber(t *testing.T) {
	for b := leastBase; b <= greatestBase; b++ {
		for _, p := range append([]int{200, 201, 211, 223, 227, 983, 997, 1009}, wildBottoms...) {
			wantCyclicFails(t, b, p)
		}
		for n := 2; n <= greatestCyclic; n++ {
			if len(primesIn(n)) != 1 || divisor(b, n) != 1 || primesIn(n)[0] != n {
				wantCyclicFails(t, b, n)
			}
		}
	}
}

// TestTurnsKeepArguments gives rings with space behind them, which belongs to the caller too.
func TestTurnsKeepArguments(t *testing.T) {
	for _, x := range []struct {
		list []int
		n    int
	}{
		{[]int{0, 1, 7}, 1}, {[]int{1, 4, 2, 8, 5, 7, 3, 3, 3, 3, 3, 3}, 6}, {[]int{0, 7, 6, 9, 2, 3}, 6}, {[]int{0, 0, 0, 5}, 3}, {[]int{0, 10, 3, 3, 3}, 3}, {mixedRing(10, 500), 250}, {mixedRing(10, 500), 251},
	} {
		list := slices.Clone(x.list)
		d := list[:x.n]
		for k := range greatestTurn + 1 {
			impl.TurnBy(10, d, k)
			impl.TurnTimes(10, d, k)
			impl.TurnIs(10, d, k)
		}
		impl.TurnAll(10, d)
		impl.TurnLeast(10, d)
		if !slices.Equal(list, x.list) {
			t.Errorf("%s was changed to %s", shown(x.list), shown(list))
		}
	}
}

// TestTurnsSameAnswers asks the same again, with other questions between.
func TestTurnsSameAnswers(t *testing.T) {
	ask := func(b int, d []int, k int) string {
		turn, ok1 := impl.TurnBy(b, d, k)
		product, ok2 := impl.TurnTimes(b, d, k)
		all, ok3 := impl.TurnAll(b, d)
		least, ok4 := impl.TurnLeast(b, d)
		found, ok5 := impl.TurnFind(b, k, len(d))
		cyclic, ok6 := impl.TurnCyclic(b, k)
		return fmt.Sprint(turn, product, all, least, found, cyclic, ok1, ok2, ok3, ok4, ok5, ok6, impl.TurnIs(b, d, k))
	}
	rings := append([][]int{nil, {1, 4, 2, 8, 5, 7}, {0, 7, 6, 9, 2, 3}, {0, 0, 15}, {-1}, make([]int, 251)}, binaryRings...)
	first := map[string]string{}
	for range 3 {
		for b := leastBase - 1; b <= greatestBase+1; b++ {
			for _, d := range rings {
				for _, k := range []int{-1, 0, 1, 2, 5, 7, 19, 100, 101, 250, 251} {
					question := fmt.Sprint(b, d, k)
					answer := ask(b, d, k)
					if want, asked := first[question]; asked && answer != want {
						t.Fatalf("for %s the answers are %s and %s", question, want, answer)
					}
					first[question] = answer
				}
			}
		}
	}
}

// TestTurnResultsShareNoMemory spoils each result, and the ring that was given, and looks at all others.
func TestTurnResultsShareNoMemory(t *testing.T) {
	for _, d := range [][]int{{0}, {7}, {0, 1}, {1, 4, 2, 8, 5, 7}, {0, 7, 6, 9, 2, 3}, {0, 1, 0, 1}, make([]int, 250), mixedRing(10, 250)} {
		for _, k := range []int{0, 1, 2, 6, 250} {
			wantApart(t, fmt.Sprintf("%s and %d", shown(d), k), func() [][]int {
				space := slices.Concat(d, d)
				given := space[:len(d)]
				lists := [][]int{given}
				for range 2 {
					product, _ := impl.TurnTimes(10, given, min(k, 1))
					lists = append(lists, turnBy(t, 10, given, k), turnBy(t, 10, given, 0), turnBy(t, 10, given, len(d)), product, turnAll(t, 10, given))
				}
				return lists
			})
		}
	}
	for _, x := range [][4]int{{10, 4, 4, 7}, {10, 1, 8, 17}, {3, 2, 1, 2}, {16, 15, 15, 2}, {2, 1, 1, 197}} {
		wantApart(t, fmt.Sprint(x), func() [][]int {
			var lists [][]int
			for range 2 {
				found, _ := impl.TurnFind(x[0], x[1], x[2])
				cyclic, _ := impl.TurnCyclic(x[0], x[3])
				lists = append(lists, found, cyclic)
			}
			return lists
		})
	}
}
