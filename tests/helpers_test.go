package tests

import (
	"math"
	"math/big"
	"slices"
	"testing"

	"loop.example/fractionrounds/impl"
)

const (
	leastBase     = 2
	greatestBase  = 16
	bottomMax     = 1000 // written out, so that a changed constant is seen
	greatestK     = 200
	greatestPlace = 1000000
)

var zeroFrac = impl.Frac{Top: 0, Bottom: 1}

// wildBases are no bases.
var wildBases = []int{math.MinInt, math.MinInt + 1, -17, -10, -2, -1, 0, 1, 17, 18, 1000, math.MaxInt - 1, math.MaxInt}

// wildFracs are no fractions.
var wildFracs = []impl.Frac{
	{Top: 0, Bottom: 0}, {Top: 1, Bottom: 0}, {Top: -1, Bottom: 0},
	{Top: 0, Bottom: 2}, {Top: 0, Bottom: 1000}, {Top: 1, Bottom: 1}, {Top: -1, Bottom: 1},
	{Top: 2, Bottom: 2}, {Top: 3, Bottom: 2}, {Top: 7, Bottom: 7}, {Top: 8, Bottom: 7}, {Top: 1000, Bottom: 1000},
	{Top: -1, Bottom: 2}, {Top: 1, Bottom: -2}, {Top: -1, Bottom: -2}, {Top: -3, Bottom: -2}, {Top: 0, Bottom: -1},
	{Top: 2, Bottom: 4}, {Top: 6, Bottom: 9}, {Top: 500, Bottom: 1000}, {Top: 990, Bottom: 999},
	{Top: 1, Bottom: 1001}, {Top: 0, Bottom: 1001}, {Top: 1000, Bottom: 1001},
	{Top: math.MinInt, Bottom: 7}, {Top: math.MaxInt, Bottom: 7}, {Top: 1, Bottom: math.MinInt}, {Top: 1, Bottom: math.MaxInt},
	{Top: math.MinInt, Bottom: math.MinInt}, {Top: math.MinInt, Bottom: -1}, {Top: math.MinInt, Bottom: 0},
	{Top: math.MaxInt, Bottom: math.MaxInt}, {Top: math.MaxInt - 1, Bottom: math.MaxInt},
	{Top: math.MinInt, Bottom: math.MaxInt}, {Top: math.MaxInt, Bottom: math.MinInt},
}

func divisor(a, b int) int {
	for b != 0 {
		a, b = b, a%b
	}
	return a
}

// fracsOver returns all fractions with a bottom.
func fracsOver(bottom int) []impl.Frac {
	var fracs []impl.Frac
	for top := range bottom {
		if divisor(top, bottom) == 1 {
			fracs = append(fracs, impl.Frac{Top: top, Bottom: bottom})
		}
	}
	return fracs
}

// someFracs returns all fractions with small bottoms, and for each other bottom the first, a middle and the last one.
func someFracs() []impl.Frac {
	var fracs []impl.Frac
	for bottom := 1; bottom <= bottomMax; bottom++ {
		over := fracsOver(bottom)
		if bottom > 48 {
			over = []impl.Frac{over[0], over[len(over)/3], over[len(over)-1]}
		}
		fracs = append(fracs, over...)
	}
	return fracs
}

// eachSome calls a test for all bases and some fractions.
func eachSome(check func(b int, f impl.Frac)) {
	fracs := someFracs()
	for b := leastBase; b <= greatestBase; b++ {
		for _, f := range fracs {
			check(b, f)
		}
	}
}

// longDivision returns the digits of beginning and round, found by the first rest that comes again.
func longDivision(b int, f impl.Frac) (begin, round []int) {
	var digits []int
	places := map[int]int{}
	rest := f.Top
	for {
		if place, ok := places[rest]; ok {
			return digits[:place], digits[place:]
		}
		places[rest] = len(digits)
		digits = append(digits, rest*b/f.Bottom)
		rest = rest * b % f.Bottom
	}
}

// valueOf returns the value of a beginning and a round, added up digit by digit.
func valueOf(b int, begin, round []int) *big.Rat {
	value, weight := new(big.Rat), big.NewRat(1, 1)
	base := big.NewRat(1, int64(b))
	for _, digit := range begin {
		weight.Mul(weight, base)
		value.Add(value, new(big.Rat).Mul(weight, big.NewRat(int64(digit), 1)))
	}
	once, last := new(big.Rat), big.NewRat(1, 1)
	for _, digit := range round {
		last.Mul(last, base)
		once.Add(once, new(big.Rat).Mul(last, big.NewRat(int64(digit), 1)))
	}
	// Each time that the round comes again, it weighs less by this factor.
	again := new(big.Rat).Sub(big.NewRat(1, 1), last)
	once.Quo(once, again)
	return value.Add(value, once.Mul(once, weight))
}

// eachList calls a test for all lists of a length with digits from some.
func eachList(length int, some []int, check func(list []int)) {
	list := make([]int, length)
	var fill func(place int)
	fill = func(place int) {
		if place == length {
			check(list)
			return
		}
		for _, digit := range some {
			list[place] = digit
			fill(place + 1)
		}
	}
	fill(0)
}

func digitsBelow(b int) []int {
	digits := make([]int, b)
	for i := range digits {
		digits[i] = i
	}
	return digits
}

// onlyGreatest reports whether all digits are 1 less than the base.
func onlyGreatest(b int, digits []int) bool {
	return !slices.ContainsFunc(digits, func(digit int) bool { return digit != b-1 })
}

func wantList(t *testing.T, name string, got []int, ok bool, want []int) {
	t.Helper()
	if !ok || !slices.Equal(got, want) {
		t.Fatalf("%s returned %v, %v, and not %v, true", name, got, ok, want)
	}
}

func wantNoList(t *testing.T, name string, got []int, ok bool) {
	t.Helper()
	if ok || len(got) != 0 {
		t.Fatalf("%s returned %v, %v, and not an empty list, false", name, got, ok)
	}
}

// begin, round and lengths are for arguments for which the functions must succeed.
func begin(t *testing.T, b int, f impl.Frac) []int {
	t.Helper()
	digits, ok := impl.FracBegin(b, f)
	if !ok {
		t.Fatalf("FracBegin(%d, %v) fails", b, f)
	}
	return digits
}

func round(t *testing.T, b int, f impl.Frac) []int {
	t.Helper()
	digits, ok := impl.FracRound(b, f)
	if !ok || len(digits) == 0 {
		t.Fatalf("FracRound(%d, %v) returned %v, %v", b, f, digits, ok)
	}
	return digits
}

func lengths(t *testing.T, b int, f impl.Frac) (int, int) {
	t.Helper()
	n, m, ok := impl.FracLengths(b, f)
	if !ok {
		t.Fatalf("FracLengths(%d, %v) fails", b, f)
	}
	return n, m
}
