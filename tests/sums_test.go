package tests

import (
	"fmt"
	"math/big"
	"slices"
	"testing"

	"loop.example/fractionrounds/impl"
)

const (
	greatestSumTimes = 1000
	firstPlaces      = 200 // of the digits that promise 46 looks at
)

func TestSumOfTold(t *testing.T) {
	for _, x := range []struct {
		f, g, want impl.Frac
		ok         bool
	}{
		{impl.Frac{Top: 1, Bottom: 7}, impl.Frac{Top: 3, Bottom: 7}, impl.Frac{Top: 4, Bottom: 7}, true},
		{impl.Frac{Top: 1, Bottom: 2}, impl.Frac{Top: 1, Bottom: 3}, impl.Frac{Top: 5, Bottom: 6}, true},
		{impl.Frac{Top: 1, Bottom: 2}, impl.Frac{Top: 2, Bottom: 3}, impl.Frac{Top: 1, Bottom: 6}, true},
		{impl.Frac{Top: 2, Bottom: 3}, impl.Frac{Top: 2, Bottom: 3}, impl.Frac{Top: 1, Bottom: 3}, true},
		// 0 over 1.
		{zeroFrac, zeroFrac, zeroFrac, true},
		{zeroFrac, impl.Frac{Top: 1, Bottom: 7}, impl.Frac{Top: 1, Bottom: 7}, true},
		{zeroFrac, impl.Frac{Top: 999, Bottom: 1000}, impl.Frac{Top: 999, Bottom: 1000}, true},
		// Sums that are 1, just less, and just more.
		{impl.Frac{Top: 1, Bottom: 2}, impl.Frac{Top: 1, Bottom: 2}, zeroFrac, true},
		{impl.Frac{Top: 1, Bottom: 3}, impl.Frac{Top: 2, Bottom: 3}, zeroFrac, true},
		{impl.Frac{Top: 1, Bottom: 7}, impl.Frac{Top: 6, Bottom: 7}, zeroFrac, true},
		{impl.Frac{Top: 1, Bottom: 997}, impl.Frac{Top: 996, Bottom: 997}, zeroFrac, true},
		{impl.Frac{Top: 1, Bottom: 1000}, impl.Frac{Top: 999, Bottom: 1000}, zeroFrac, true},
		{impl.Frac{Top: 1, Bottom: 2}, impl.Frac{Top: 499, Bottom: 1000}, impl.Frac{Top: 999, Bottom: 1000}, true},
		{impl.Frac{Top: 1, Bottom: 2}, impl.Frac{Top: 501, Bottom: 1000}, impl.Frac{Top: 1, Bottom: 1000}, true},
		{impl.Frac{Top: 499, Bottom: 999}, impl.Frac{Top: 499, Bottom: 999}, impl.Frac{Top: 998, Bottom: 999}, true},
		{impl.Frac{Top: 500, Bottom: 999}, impl.Frac{Top: 500, Bottom: 999}, impl.Frac{Top: 1, Bottom: 999}, true},
		{impl.Frac{Top: 998, Bottom: 999}, impl.Frac{Top: 998, Bottom: 999}, impl.Frac{Top: 997, Bottom: 999}, true},
		// Bottoms that are just BottomMax, or nearly, and greater ones.
		{impl.Frac{Top: 1, Bottom: 8}, impl.Frac{Top: 1, Bottom: 125}, impl.Frac{Top: 133, Bottom: 1000}, true},
		{impl.Frac{Top: 7, Bottom: 8}, impl.Frac{Top: 124, Bottom: 125}, impl.Frac{Top: 867, Bottom: 1000}, true},
		{impl.Frac{Top: 1, Bottom: 27}, impl.Frac{Top: 1, Bottom: 37}, impl.Frac{Top: 64, Bottom: 999}, true},
		{impl.Frac{Top: 26, Bottom: 27}, impl.Frac{Top: 36, Bottom: 37}, impl.Frac{Top: 935, Bottom: 999}, true},
		{impl.Frac{Top: 1, Bottom: 7}, impl.Frac{Top: 1, Bottom: 143}, impl.Frac{}, false},        // 150 over 1001
		{impl.Frac{Top: 6, Bottom: 7}, impl.Frac{Top: 142, Bottom: 143}, impl.Frac{}, false},      // 851 over 1001
		{impl.Frac{Top: 1, Bottom: 2}, impl.Frac{Top: 1, Bottom: 501}, impl.Frac{}, false},        // 503 over 1002
		{impl.Frac{Top: 1, Bottom: 3}, impl.Frac{Top: 1, Bottom: 334}, impl.Frac{}, false},        // 337 over 1002
		{impl.Frac{Top: 1, Bottom: 185}, impl.Frac{Top: 1, Bottom: 222}, impl.Frac{}, false},      // 11 over 1110
		{impl.Frac{Top: 23, Bottom: 24}, impl.Frac{Top: 1, Bottom: 1000}, impl.Frac{}, false},     // 1439 over 1500
		{impl.Frac{Top: 1, Bottom: 997}, impl.Frac{Top: 1, Bottom: 991}, impl.Frac{}, false},      // 1988 over 988027
		{impl.Frac{Top: 998, Bottom: 999}, impl.Frac{Top: 999, Bottom: 1000}, impl.Frac{}, false}, // 997001 over 999000
		// Bottoms that are less than those of both; the least common multiple of these may be greater than BottomMax.
		{impl.Frac{Top: 1, Bottom: 6}, impl.Frac{Top: 1, Bottom: 3}, impl.Frac{Top: 1, Bottom: 2}, true},
		{impl.Frac{Top: 5, Bottom: 6}, impl.Frac{Top: 2, Bottom: 3}, impl.Frac{Top: 1, Bottom: 2}, true},
		{impl.Frac{Top: 1, Bottom: 10}, impl.Frac{Top: 1, Bottom: 15}, impl.Frac{Top: 1, Bottom: 6}, true},
		{impl.Frac{Top: 1, Bottom: 1000}, impl.Frac{Top: 499, Bottom: 1000}, impl.Frac{Top: 1, Bottom: 2}, true},
		{impl.Frac{Top: 1, Bottom: 990}, impl.Frac{Top: 1, Bottom: 110}, impl.Frac{Top: 1, Bottom: 99}, true},
		{impl.Frac{Top: 1, Bottom: 185}, impl.Frac{Top: 95, Bottom: 222}, impl.Frac{Top: 13, Bottom: 30}, true},
		{impl.Frac{Top: 184, Bottom: 185}, impl.Frac{Top: 127, Bottom: 222}, impl.Frac{Top: 17, Bottom: 30}, true},
		{impl.Frac{Top: 1, Bottom: 24}, impl.Frac{Top: 1, Bottom: 1000}, impl.Frac{Top: 16, Bottom: 375}, true},
	} {
		for range 2 {
			if got, ok := impl.SumOf(x.f, x.g); ok != x.ok || got != x.want {
				t.Errorf("SumOf(%v, %v) = %v, %v, not %v, %v", x.f, x.g, got, ok, x.want, x.ok)
			}
			x.f, x.g = x.g, x.f
		}
	}
}

func TestSumTimesTold(t *testing.T) {
	for _, x := range []struct {
		f    impl.Frac
		k    int
		want impl.Frac
	}{
		{zeroFrac, 0, zeroFrac}, {zeroFrac, 1, zeroFrac}, {zeroFrac, 1000, zeroFrac},
		{impl.Frac{Top: 1, Bottom: 7}, 0, zeroFrac}, {impl.Frac{Top: 1, Bottom: 7}, 1, impl.Frac{Top: 1, Bottom: 7}}, {impl.Frac{Top: 1, Bottom: 7}, 6, impl.Frac{Top: 6, Bottom: 7}},
		{impl.Frac{Top: 1, Bottom: 7}, 7, zeroFrac}, {impl.Frac{Top: 1, Bottom: 7}, 8, impl.Frac{Top: 1, Bottom: 7}}, {impl.Frac{Top: 1, Bottom: 7}, 10, impl.Frac{Top: 3, Bottom: 7}},
		{impl.Frac{Top: 1, Bottom: 7}, 1000, impl.Frac{Top: 6, Bottom: 7}}, {impl.Frac{Top: 3, Bottom: 8}, 2, impl.Frac{Top: 3, Bottom: 4}}, {impl.Frac{Top: 3, Bottom: 8}, 6, impl.Frac{Top: 1, Bottom: 4}},
		{impl.Frac{Top: 1, Bottom: 6}, 4, impl.Frac{Top: 2, Bottom: 3}}, {impl.Frac{Top: 5, Bottom: 6}, 3, impl.Frac{Top: 1, Bottom: 2}},
		{impl.Frac{Top: 1, Bottom: 2}, 999, impl.Frac{Top: 1, Bottom: 2}}, {impl.Frac{Top: 1, Bottom: 2}, 1000, zeroFrac},
		{impl.Frac{Top: 1, Bottom: 997}, 996, impl.Frac{Top: 996, Bottom: 997}}, {impl.Frac{Top: 1, Bottom: 997}, 997, zeroFrac}, {impl.Frac{Top: 1, Bottom: 997}, 1000, impl.Frac{Top: 3, Bottom: 997}},
		{impl.Frac{Top: 996, Bottom: 997}, 1000, impl.Frac{Top: 994, Bottom: 997}}, {impl.Frac{Top: 998, Bottom: 999}, 1000, impl.Frac{Top: 998, Bottom: 999}},
		{impl.Frac{Top: 1, Bottom: 1000}, 125, impl.Frac{Top: 1, Bottom: 8}}, {impl.Frac{Top: 1, Bottom: 1000}, 999, impl.Frac{Top: 999, Bottom: 1000}}, {impl.Frac{Top: 123, Bottom: 1000}, 50, impl.Frac{Top: 3, Bottom: 20}},
		{impl.Frac{Top: 999, Bottom: 1000}, 0, zeroFrac}, {impl.Frac{Top: 999, Bottom: 1000}, 1, impl.Frac{Top: 999, Bottom: 1000}}, {impl.Frac{Top: 999, Bottom: 1000}, 2, impl.Frac{Top: 499, Bottom: 500}},
		{impl.Frac{Top: 999, Bottom: 1000}, 500, impl.Frac{Top: 1, Bottom: 2}}, {impl.Frac{Top: 999, Bottom: 1000}, 999, impl.Frac{Top: 1, Bottom: 1000}}, {impl.Frac{Top: 999, Bottom: 1000}, 1000, zeroFrac},
	} {
		if got, ok := impl.SumTimes(x.f, x.k); !ok || got != x.want {
			t.Errorf("SumTimes(%v, %d) = %v, %v, not %v, true", x.f, x.k, got, ok, x.want)
		}
	}
}

func TestSumRoundTold(t *testing.T) {
	for _, x := range []struct {
		b          int
		x, y, want []int
	}{
		// Rings of 1 digit.
		{2, []int{0}, []int{0}, []int{0}}, {2, []int{0}, []int{1}, []int{0}}, {2, []int{1}, []int{1}, []int{0}},
		{10, []int{4}, []int{4}, []int{8}}, {10, []int{4}, []int{5}, []int{0}}, {10, []int{4}, []int{6}, []int{1}}, {10, []int{9}, []int{1}, []int{1}}, {10, []int{9}, []int{9}, []int{0}},
		{16, []int{8}, []int{7}, []int{0}}, {16, []int{8}, []int{8}, []int{1}}, {16, []int{15}, []int{14}, []int{14}}, {16, []int{15}, []int{15}, []int{0}},
		// No carry of the first digits.
		{10, []int{0, 0, 7}, []int{0, 0, 5}, []int{0, 1, 2}}, {10, []int{0, 9, 9, 9}, []int{0, 0, 0, 1}, []int{1, 0, 0, 0}}, {2, []int{0, 1}, []int{0, 1}, []int{1, 0}},
		{10, []int{1, 4, 2, 8, 5, 7}, []int{1, 4, 2, 8, 5, 7}, []int{2, 8, 5, 7, 1, 4}},
		// Carries that come round once, to the last digit, to some, and over all.
		{10, []int{9, 5}, []int{1, 7}, []int{1, 3}}, {10, []int{5, 0, 0, 0}, []int{5, 0, 0, 0}, []int{0, 0, 0, 1}}, {10, []int{5, 0, 0, 9}, []int{5, 0, 0, 0}, []int{0, 0, 1, 0}},
		{10, []int{8, 5, 7, 1, 4, 2}, []int{8, 5, 7, 1, 4, 2}, []int{7, 1, 4, 2, 8, 5}}, {10, []int{8, 5, 7, 1, 4, 2}, []int{2, 8, 5, 7, 1, 4}, []int{1, 4, 2, 8, 5, 7}},
		{10, []int{9, 0, 0, 0}, []int{1, 9, 9, 9}, []int{1, 0, 0, 0}}, {10, []int{5, 9, 9, 9}, []int{5, 0, 0, 0}, []int{1, 0, 0, 0}}, {10, []int{9, 9, 9, 8}, []int{0, 0, 0, 2}, []int{0, 0, 0, 1}},
		{2, []int{1, 0, 0}, []int{1, 0, 0}, []int{0, 0, 1}}, {2, []int{1, 0, 1}, []int{0, 1, 1}, []int{0, 0, 1}}, {2, []int{1, 0, 1, 1}, []int{1, 0, 0, 0}, []int{0, 1, 0, 0}},
		{16, []int{15, 0}, []int{1, 0}, []int{0, 1}}, {16, []int{10, 11, 12}, []int{5, 4, 4}, []int{0, 0, 1}}, {16, []int{8, 15, 15}, []int{8, 0, 0}, []int{1, 0, 0}}, {16, []int{15, 15, 14}, []int{0, 0, 2}, []int{0, 0, 1}},
		// Sums with the greatest digit alone.
		{10, []int{1, 4, 2, 8, 5, 7}, []int{8, 5, 7, 1, 4, 2}, []int{0, 0, 0, 0, 0, 0}}, {10, []int{3, 7, 0, 5}, []int{6, 2, 9, 4}, []int{0, 0, 0, 0}}, {10, []int{3, 7, 0, 5}, []int{6, 2, 9, 5}, []int{0, 0, 0, 1}},
		{10, []int{5, 0, 0, 0}, []int{4, 9, 9, 9}, []int{0, 0, 0, 0}}, {2, []int{0, 1}, []int{1, 0}, []int{0, 0}}, {3, []int{1, 1}, []int{1, 1}, []int{0, 0}}, {3, []int{2, 1}, []int{0, 1}, []int{0, 0}}, {16, []int{10, 11, 12}, []int{5, 4, 3}, []int{0, 0, 0}},
		// Sums with the greatest digit at all places but one.
		{10, []int{4, 4, 4}, []int{5, 5, 4}, []int{9, 9, 8}}, {10, []int{4, 4, 4}, []int{4, 5, 5}, []int{8, 9, 9}}, {2, []int{0, 1, 0}, []int{1, 0, 0}, []int{1, 1, 0}},
		// Rings that are all 0, and all the greatest digit.
		{10, []int{0, 0, 0}, []int{0, 0, 0}, []int{0, 0, 0}}, {10, []int{9, 9, 9, 9}, []int{0, 0, 0, 0}, []int{0, 0, 0, 0}}, {10, []int{9, 9, 9, 9}, []int{9, 9, 9, 9}, []int{0, 0, 0, 0}},
		{10, []int{9, 9, 9, 9}, []int{0, 0, 0, 1}, []int{0, 0, 0, 1}}, {10, []int{9, 9, 9, 9}, []int{5, 0, 0, 0}, []int{5, 0, 0, 0}}, {10, []int{0, 0, 0, 0}, []int{0, 7, 0, 0}, []int{0, 7, 0, 0}},
		{2, []int{1, 1}, []int{1, 1}, []int{0, 0}}, {2, []int{1, 1}, []int{0, 1}, []int{0, 1}}, {2, []int{1, 0, 0, 0}, []int{1, 1, 1, 1}, []int{1, 0, 0, 0}}, {3, []int{2, 2}, []int{2, 1}, []int{2, 1}},
	} {
		got, ok := impl.SumRound(x.b, x.x, x.y)
		wantList(t, fmt.Sprintf("SumRound(%d, %v, %v)", x.b, x.x, x.y), got, ok, x.want)
		got, ok = impl.SumRound(x.b, x.y, x.x)
		wantList(t, fmt.Sprintf("SumRound(%d, %v, %v)", x.b, x.y, x.x), got, ok, x.want)
	}
}

// TestSumRoundLong adds rings of 250 digits, with carries over all of them.
func TestSumRoundLong(t *testing.T) {
	for b := leastBase; b <= greatestBase; b++ {
		// with returns a ring with one digit but at two places.
		with := func(digit, first, last int) []int {
			d := slices.Repeat([]int{digit}, greatestRing)
			d[0], d[greatestRing-1] = first, last
			return d
		}
		zeros, greatest := with(0, 0, 0), with(b-1, b-1, b-1)
		twice := with(b-1, b-1, 1)
		twice[greatestRing-2] = b - 2
		for _, x := range [][3][]int{
			{zeros, zeros, zeros}, {zeros, greatest, zeros}, {greatest, greatest, zeros}, {with(b-1, 0, b-1), with(0, b-1, 0), zeros},
			{zeros, with(0, 1, 0), with(0, 1, 0)}, {greatest, with(0, 1, 0), with(0, 1, 0)}, {greatest, with(0, 0, 1), with(0, 0, 1)}, {greatest, with(b-1, 0, b-1), with(b-1, 0, b-1)},
			{with(b-1, 0, b-1), with(0, 0, 1), with(0, 1, 0)}, {with(b-1, 1, b-1), with(0, b-1, 0), with(0, 1, 0)},
			{with(0, b-1, 0), with(0, 1, 0), with(0, 0, 1)}, {with(b-1, b-1, b-2), with(0, 1, 1), with(0, 1, 0)},
			{with(b-1, b-1, 0), with(b-1, b-1, 0), twice},
		} {
			got, ok := impl.SumRound(b, x[0], x[1])
			wantList(t, fmt.Sprintf("SumRound(%d, %v, %v)", b, x[0], x[1]), got, ok, x[2])
			got, ok = impl.SumRound(b, x[1], x[0])
			wantList(t, fmt.Sprintf("SumRound(%d, %v, %v)", b, x[1], x[0]), got, ok, x[2])
		}
	}
}

func TestSumOtherTold(t *testing.T) {
	for _, x := range []struct {
		b       int
		d, want []int
	}{
		{2, []int{0}, []int{1}}, {2, []int{1}, []int{0}}, {10, []int{0}, []int{9}}, {10, []int{9}, []int{0}}, {10, []int{4}, []int{5}}, {16, []int{0}, []int{15}}, {16, []int{7}, []int{8}},
		{10, []int{1, 4, 2, 8, 5, 7}, []int{8, 5, 7, 1, 4, 2}}, {10, []int{9, 0, 9}, []int{0, 9, 0}}, {10, []int{0, 0, 0}, []int{9, 9, 9}}, {10, []int{9, 9, 9}, []int{0, 0, 0}},
		{2, []int{0, 0, 1, 1}, []int{1, 1, 0, 0}}, {2, []int{1, 1, 1}, []int{0, 0, 0}}, {3, []int{0, 1, 2}, []int{2, 1, 0}}, {3, []int{1, 1}, []int{1, 1}}, {16, []int{15, 0, 10}, []int{0, 15, 5}},
		{2, make([]int, 250), slices.Repeat([]int{1}, 250)}, {16, make([]int, 250), slices.Repeat([]int{15}, 250)}, {16, slices.Repeat([]int{15}, 250), make([]int, 250)},
	} {
		got, ok := impl.SumOther(x.b, x.d)
		wantList(t, fmt.Sprintf("SumOther(%d, %v)", x.b, x.d), got, ok, x.want)
	}
}

func TestSumLengthsTold(t *testing.T) {
	for _, x := range []struct {
		b    int
		f, g impl.Frac
		want int
	}{
		// Fractions that end have rounds of 1 digit.
		{10, zeroFrac, zeroFrac, 1}, {10, zeroFrac, impl.Frac{Top: 1, Bottom: 7}, 6}, {10, impl.Frac{Top: 3, Bottom: 8}, impl.Frac{Top: 1, Bottom: 7}, 6}, {10, impl.Frac{Top: 3, Bottom: 8}, impl.Frac{Top: 1, Bottom: 125}, 1},
		{2, impl.Frac{Top: 1, Bottom: 8}, impl.Frac{Top: 3, Bottom: 16}, 1}, {16, impl.Frac{Top: 1, Bottom: 2}, impl.Frac{Top: 1, Bottom: 17}, 2}, {16, impl.Frac{Top: 1, Bottom: 256}, impl.Frac{Top: 1, Bottom: 3}, 1},
		// Lengths that are the same, that divide each other, and that do not; 1 over 12 has a round of 1 digit, and 1 over 14 of 6.
		{10, impl.Frac{Top: 1, Bottom: 7}, impl.Frac{Top: 1, Bottom: 13}, 6}, {2, impl.Frac{Top: 1, Bottom: 983}, impl.Frac{Top: 982, Bottom: 983}, 491}, {16, impl.Frac{Top: 1, Bottom: 19}, impl.Frac{Top: 1, Bottom: 37}, 9},
		{10, impl.Frac{Top: 1, Bottom: 7}, impl.Frac{Top: 1, Bottom: 11}, 6}, {10, impl.Frac{Top: 1, Bottom: 17}, impl.Frac{Top: 1, Bottom: 101}, 16}, {10, impl.Frac{Top: 1, Bottom: 12}, impl.Frac{Top: 1, Bottom: 14}, 6}, {3, impl.Frac{Top: 1, Bottom: 2}, impl.Frac{Top: 1, Bottom: 8}, 2},
		{10, impl.Frac{Top: 1, Bottom: 27}, impl.Frac{Top: 1, Bottom: 11}, 6}, {10, impl.Frac{Top: 1, Bottom: 7}, impl.Frac{Top: 1, Bottom: 41}, 30}, {10, impl.Frac{Top: 1, Bottom: 73}, impl.Frac{Top: 1, Bottom: 7}, 24},
		{2, impl.Frac{Top: 1, Bottom: 3}, impl.Frac{Top: 1, Bottom: 7}, 6}, {2, impl.Frac{Top: 1, Bottom: 7}, impl.Frac{Top: 1, Bottom: 5}, 12}, {2, impl.Frac{Top: 1, Bottom: 9}, impl.Frac{Top: 1, Bottom: 5}, 12},
		{16, impl.Frac{Top: 1, Bottom: 7}, impl.Frac{Top: 1, Bottom: 17}, 6}, {16, impl.Frac{Top: 1, Bottom: 11}, impl.Frac{Top: 1, Bottom: 13}, 15},
		// Long rounds.
		{10, impl.Frac{Top: 1, Bottom: 983}, impl.Frac{Top: 1, Bottom: 977}, 479216}, {10, impl.Frac{Top: 1, Bottom: 983}, impl.Frac{Top: 1, Bottom: 971}, 476270}, {2, impl.Frac{Top: 1, Bottom: 947}, impl.Frac{Top: 1, Bottom: 941}, 444620}, {15, impl.Frac{Top: 1, Bottom: 997}, impl.Frac{Top: 1, Bottom: 983}, 163012},
	} {
		for range 2 {
			got, ok := impl.SumLengths(x.b, x.f, x.g)
			wantNumber(t, fmt.Sprintf("SumLengths(%d, %v, %v)", x.b, x.f, x.g), got, ok, x.want, true)
			x.f, x.g = x.g, x.f
		}
	}
}

// TestSumLessTold tells the first of two fractions that is less, and the first place at which their digits differ.
func TestSumLessTold(t *testing.T) {
	for _, x := range []struct {
		b     int
		f, g  impl.Frac
		place int
	}{
		// At the first place, and soon.
		{10, impl.Frac{Top: 1, Bottom: 30}, impl.Frac{Top: 1, Bottom: 3}, 0}, {10, impl.Frac{Top: 499, Bottom: 999}, impl.Frac{Top: 1, Bottom: 2}, 0}, {10, impl.Frac{Top: 428, Bottom: 857}, impl.Frac{Top: 1, Bottom: 2}, 0}, {2, impl.Frac{Top: 499, Bottom: 999}, impl.Frac{Top: 1, Bottom: 2}, 0}, {16, impl.Frac{Top: 1, Bottom: 17}, impl.Frac{Top: 16, Bottom: 17}, 0},
		{10, impl.Frac{Top: 1, Bottom: 7}, impl.Frac{Top: 1, Bottom: 6}, 1}, {10, impl.Frac{Top: 3, Bottom: 10}, impl.Frac{Top: 1, Bottom: 3}, 1}, {10, impl.Frac{Top: 1, Bottom: 10}, impl.Frac{Top: 1, Bottom: 9}, 1},
		// 0 over 1.
		{2, zeroFrac, impl.Frac{Top: 1, Bottom: 1000}, 9}, {10, zeroFrac, impl.Frac{Top: 1, Bottom: 1000}, 2}, {16, zeroFrac, impl.Frac{Top: 1, Bottom: 1000}, 2}, {10, zeroFrac, impl.Frac{Top: 999, Bottom: 1000}, 0},
		// Late.
		{2, impl.Frac{Top: 1, Bottom: 750}, impl.Frac{Top: 1, Bottom: 749}, 19}, {2, impl.Frac{Top: 1, Bottom: 1000}, impl.Frac{Top: 1, Bottom: 999}, 19}, {2, impl.Frac{Top: 997, Bottom: 998}, impl.Frac{Top: 998, Bottom: 999}, 18}, {2, impl.Frac{Top: 1, Bottom: 2}, impl.Frac{Top: 500, Bottom: 999}, 10},
		{3, impl.Frac{Top: 728, Bottom: 729}, impl.Frac{Top: 729, Bottom: 730}, 12}, {10, impl.Frac{Top: 1, Bottom: 330}, impl.Frac{Top: 1, Bottom: 329}, 5}, {10, impl.Frac{Top: 997, Bottom: 998}, impl.Frac{Top: 998, Bottom: 999}, 5}, {10, impl.Frac{Top: 333, Bottom: 1000}, impl.Frac{Top: 1, Bottom: 3}, 3},
		{16, impl.Frac{Top: 255, Bottom: 256}, impl.Frac{Top: 256, Bottom: 257}, 4}, {16, impl.Frac{Top: 1, Bottom: 1000}, impl.Frac{Top: 1, Bottom: 999}, 4},
		// Behind the shorter round, or behind both, which are the same as far as both go.
		{2, impl.Frac{Top: 2, Bottom: 7}, impl.Frac{Top: 1, Bottom: 3}, 3}, {2, impl.Frac{Top: 2, Bottom: 7}, impl.Frac{Top: 9, Bottom: 31}, 6}, {2, impl.Frac{Top: 74, Bottom: 255}, impl.Frac{Top: 9, Bottom: 31}, 11},
		{10, impl.Frac{Top: 10, Bottom: 111}, impl.Frac{Top: 1, Bottom: 11}, 3}, {10, impl.Frac{Top: 110, Bottom: 999}, impl.Frac{Top: 1, Bottom: 9}, 2}, {16, impl.Frac{Top: 16, Bottom: 273}, impl.Frac{Top: 1, Bottom: 17}, 3},
	} {
		if !impl.SumLess(x.b, x.f, x.g) || impl.SumLess(x.b, x.g, x.f) {
			t.Errorf("SumLess(%d, %v, %v) does not hold, or does for both exchanged", x.b, x.f, x.g)
		}
		if impl.SumLess(x.b, x.f, x.f) || impl.SumLess(x.b, x.g, x.g) {
			t.Errorf("SumLess(%d, %v, %v) holds, or so for %v", x.b, x.f, x.f, x.g)
		}
		if place := firstOther(t, x.b, x.f, x.g); place != x.place {
			t.Errorf("the digits of %v and %v in base %d differ at %d first, and not at %d", x.f, x.g, x.b, place, x.place)
		}
	}
}

// firstOther returns the first of 200 places at which the digits of two fractions differ, or -1.
func firstOther(t *testing.T, b int, f, g impl.Frac) int {
	t.Helper()
	one, two := digitsOf(t, b, f, firstPlaces), digitsOf(t, b, g, firstPlaces)
	for place, digit := range one {
		if digit != two[place] {
			return place
		}
	}
	return -1
}

// digitsOf and sumRound are for arguments for which the functions must succeed.
func digitsOf(t *testing.T, b int, f impl.Frac, k int) []int {
	t.Helper()
	digits, ok := impl.FracDigits(b, f, k)
	if !ok || len(digits) != k {
		t.Fatalf("FracDigits(%d, %v, %d) = %v, %v", b, f, k, digits, ok)
	}
	return digits
}

func sumRound(t *testing.T, b int, x, y []int) []int {
	t.Helper()
	sum, ok := impl.SumRound(b, x, y)
	if !ok || len(sum) != len(x) {
		t.Fatalf("SumRound(%d, %v, %v) = %v, %v", b, x, y, sum, ok)
	}
	return sum
}

// neighbour returns the fraction that is next to one among those with a less bottom, the one with the greater bottom of two.
func neighbour(f impl.Frac) impl.Frac {
	for bottom := f.Bottom - 1; bottom > 1; bottom-- {
		// The products with the bottoms of each other differ by 1.
		switch f.Top * bottom % f.Bottom {
		case 1:
			return impl.Frac{Top: (f.Top*bottom - 1) / f.Bottom, Bottom: bottom}
		case f.Bottom - 1:
			if top := (f.Top*bottom + 1) / f.Bottom; top < bottom {
				return impl.Frac{Top: top, Bottom: bottom}
			}
		}
	}
	return zeroFrac
}

// otherOf returns the fraction with which one adds up to 1, or 0 over 1 for itself.
func otherOf(f impl.Frac) impl.Frac {
	if f == zeroFrac {
		return f
	}
	return impl.Frac{Top: f.Bottom - f.Top, Bottom: f.Bottom}
}

// eachTwo calls a test for pairs of fractions: all of small ones, and each of some fractions with ones that are near to it, to 0, to 1 and to what it lacks to 1, and with ones with a common divisor.
func eachTwo(check func(f, g impl.Frac)) {
	var small []impl.Frac
	for bottom := 1; bottom <= 20; bottom++ {
		small = append(small, fracsOver(bottom)...)
	}
	for _, f := range small {
		for _, g := range small {
			check(f, g)
		}
	}
	for _, f := range someFracs() {
		for _, g := range []impl.Frac{f, otherOf(f), neighbour(f), neighbour(otherOf(f)), zeroFrac, {Top: 1, Bottom: 2}, {Top: 1, Bottom: 7}, {Top: 7, Bottom: 30}, {Top: 1, Bottom: 999}, {Top: 999, Bottom: 1000}} {
			check(f, g)
			check(g, f)
		}
	}
}

// addedFracs returns what two fractions add up to, without a whole 1.
func addedFracs(f, g impl.Frac) *big.Rat {
	sum := big.NewRat(int64(f.Top), int64(f.Bottom))
	sum.Add(sum, big.NewRat(int64(g.Top), int64(g.Bottom)))
	if one := big.NewRat(1, 1); sum.Cmp(one) >= 0 {
		sum.Sub(sum, one)
	}
	return sum
}

// TestP40 compares SumOf with sums of rationals, and the sums of a fraction and its other one with 0 over 1.
func TestP40(t *testing.T) {
	found, failed := 0, 0
	eachTwo(func(f, g impl.Frac) {
		sum, ok := impl.SumOf(f, g)
		exchanged, okExchanged := impl.SumOf(g, f)
		if sum != exchanged || ok != okExchanged {
			t.Fatalf("SumOf(%v, %v) = %v, %v, but for both exchanged %v, %v", f, g, sum, ok, exchanged, okExchanged)
		}
		want := addedFracs(f, g)
		if want.Denom().Cmp(big.NewInt(bottomMax)) > 0 {
			failed++
			if ok || sum != (impl.Frac{}) {
				t.Fatalf("SumOf(%v, %v) = %v, %v, but the sum is %v", f, g, sum, ok, want)
			}
			return
		}
		found++
		if !ok || sum != (impl.Frac{Top: int(want.Num().Int64()), Bottom: int(want.Denom().Int64())}) {
			t.Fatalf("SumOf(%v, %v) = %v, %v, not %v", f, g, sum, ok, want)
		}
	})
	if found < 1000 || failed < 1000 {
		t.Fatalf("%d sums are fractions, and %d are not", found, failed)
	}
	for bottom := 2; bottom <= bottomMax; bottom++ {
		for _, f := range fracsOver(bottom) {
			other, ok := impl.RestOther(f)
			if sum, okSum := impl.SumOf(f, other); !ok || !okSum || sum != zeroFrac {
				t.Fatalf("SumOf(%v, %v) = %v, %v", f, other, sum, okSum)
			}
		}
	}
}

// TestP41 multiplies by all numbers, and compares with sums, of rests and of SumOf.
func TestP41(t *testing.T) {
	for _, f := range someFracs() {
		rest := 0
		for k := 0; k <= greatestSumTimes; k++ {
			common := divisor(rest, f.Bottom)
			want := impl.Frac{Top: rest / common, Bottom: f.Bottom / common}
			got, ok := impl.SumTimes(f, k)
			if !ok || got != want {
				t.Fatalf("SumTimes(%v, %d) = %v, %v, not %v", f, k, got, ok, want)
			}
			if k == f.Bottom && got != zeroFrac {
				t.Fatalf("SumTimes(%v, %d) = %v", f, k, got)
			}
			rest = (rest + f.Top) % f.Bottom
			if k == greatestSumTimes || (k+f.Bottom)%7 != 0 && k > 20 && k < 990 {
				continue
			}
			next, okNext := impl.SumTimes(f, k+1)
			if sum, okSum := impl.SumOf(got, f); !okNext || !okSum || sum != next {
				t.Fatalf("SumTimes(%v, %d) = %v, %v, but SumOf(%v, %v) = %v, %v", f, k+1, next, okNext, got, f, sum, okSum)
			}
		}
	}
}

// eachTwoRings calls a test for all bases and pairs of rings of as many digits. Of short rings there are many, so each one is paired with some.
func eachTwoRings(check func(b int, x, y []int)) {
	for b := leastBase; b <= greatestBase; b++ {
		byLength := make([][][]int, greatestRing+1)
		for _, d := range someRings(b) {
			byLength[len(d)] = append(byLength[len(d)], d)
		}
		for _, rings := range byLength {
			for i, x := range rings {
				for j, y := range rings {
					if len(rings) < 70 || (i+j)%13 == b%13 {
						check(b, x, y)
					}
				}
				check(b, x, otherRing(b, x))
			}
		}
	}
}

// otherRing returns for each digit what it lacks to the greatest one.
func otherRing(b int, d []int) []int {
	var other []int
	for _, digit := range d {
		other = append(other, b-1-digit)
	}
	return other
}

// addedRound returns two rings added round, by the rest of their sum as numbers: a carry of the first digits weighs the nines more than at the end, so that the nines are taken off.
func addedRound(b int, x, y []int) []int {
	sum, nines := bigSum(b, [][]int{x, y})
	sum.Mod(sum, nines)
	digits := make([]int, len(x))
	base, digit := big.NewInt(int64(b)), new(big.Int)
	for i := len(digits) - 1; i >= 0; i-- {
		sum.DivMod(sum, base, digit)
		digits[i] = int(digit.Int64())
	}
	return digits
}

// TestP42 compares SumRound with sums of numbers, for both rings exchanged and turned too.
func TestP42(t *testing.T) {
	over, zeros := 0, 0
	eachTwoRings(func(b int, x, y []int) {
		sum := sumRound(t, b, x, y)
		if want := addedRound(b, x, y); !slices.Equal(sum, want) {
			t.Fatalf("SumRound(%d, %v, %v) = %v, not %v", b, x, y, sum, want)
		}
		if exchanged := sumRound(t, b, y, x); !slices.Equal(exchanged, sum) {
			t.Fatalf("SumRound(%d, %v, %v) = %v, but for both exchanged %v", b, x, y, sum, exchanged)
		}
		if next := sumRound(t, b, turnBy(t, b, x, 1), turnBy(t, b, y, 1)); !slices.Equal(next, turnBy(t, b, sum, 1)) {
			t.Fatalf("SumRound(%d, %v, %v) = %v, but for both turned by 1 %v", b, x, y, sum, next)
		}
		if x[0]+y[0] >= b {
			over++
		}
		if sumOf(sum) == 0 {
			zeros++
		}
	})
	if over < 1000 || zeros < 1000 {
		t.Fatalf("%d sums have a carry of the first digits, and %d are all 0", over, zeros)
	}
}

// TestP43 checks that SumOther leads back, and that a ring and its other one are all 0 together.
func TestP43(t *testing.T) {
	eachRing(func(b int, d []int) {
		other, ok := impl.SumOther(b, d)
		wantList(t, fmt.Sprintf("SumOther(%d, %v)", b, d), other, ok, otherRing(b, d))
		back, ok := impl.SumOther(b, other)
		wantList(t, fmt.Sprintf("SumOther(%d, %v)", b, other), back, ok, d)
		if sum := sumRound(t, b, d, other); !slices.Equal(sum, make([]int, len(d))) {
			t.Fatalf("SumRound(%d, %v, %v) = %v", b, d, other, sum)
		}
	})
}

// eachPair calls a test for all bases and pairs of fractions: all of small ones, and each of some fractions with a few. Of large ones each base has others: all would take long.
func eachPair(check func(b int, f, g impl.Frac)) {
	var small []impl.Frac
	for bottom := 1; bottom <= 14; bottom++ {
		small = append(small, fracsOver(bottom)...)
	}
	some := someFracs()
	for b := leastBase; b <= greatestBase; b++ {
		for _, f := range small {
			for _, g := range small {
				check(b, f, g)
			}
		}
		for i, f := range some {
			if f.Bottom > 48 && f.Bottom < 990 && (b+f.Bottom)%7 != 0 {
				continue
			}
			for _, g := range []impl.Frac{f, otherOf(f), neighbour(f), small[i%len(small)], some[i*31%len(some)]} {
				check(b, f, g)
			}
		}
	}
}

// TestP44 compares SumLengths with the lengths of long division, and checks that the length of the sum divides it.
func TestP44(t *testing.T) {
	told, apart := 0, 0
	eachPair(func(b int, f, g impl.Frac) {
		_, one := longDivision(b, f)
		_, two := longDivision(b, g)
		want := len(one)
		for want%len(two) != 0 {
			want += len(one)
		}
		got, ok := impl.SumLengths(b, f, g)
		wantNumber(t, fmt.Sprintf("SumLengths(%d, %v, %v)", b, f, g), got, ok, want, true)
		got, ok = impl.SumLengths(b, g, f)
		wantNumber(t, fmt.Sprintf("SumLengths(%d, %v, %v)", b, g, f), got, ok, want, true)
		if want > len(one) && want > len(two) {
			apart++
		}
		if sum, ok := impl.SumOf(f, g); ok {
			told++
			if _, length := lengths(t, b, sum); want%length != 0 {
				t.Fatalf("SumLengths(%d, %v, %v) = %d, but the round of their sum %v has length %d", b, f, g, want, sum, length)
			}
		}
	})
	if told < 1000 || apart < 1000 {
		t.Fatalf("%d sums are told, and %d lengths are greater than both", told, apart)
	}
}

// TestP45 checks that rings of fractions without beginnings are added as the fractions are.
func TestP45(t *testing.T) {
	added := 0
	eachPair(func(b int, f, g impl.Frac) {
		if divisor(b, f.Bottom) != 1 || divisor(b, g.Bottom) != 1 {
			return
		}
		length, ok := impl.SumLengths(b, f, g)
		sum, okSum := impl.SumOf(f, g)
		if !ok || !okSum || length > greatestK {
			return
		}
		added++
		x, y := digitsOf(t, b, f, length), digitsOf(t, b, g, length)
		if got, want := sumRound(t, b, x, y), digitsOf(t, b, sum, length); !slices.Equal(got, want) {
			t.Fatalf("SumRound(%d, %v, %v) = %v, but the digits of %v are %v", b, x, y, got, sum, want)
		}
	})
	if added < 1000 {
		t.Fatalf("%d pairs have a sum", added)
	}
}

// TestP46 compares SumLess with products, and with the first digits that differ.
func TestP46(t *testing.T) {
	held, same, late := 0, 0, 0
	eachPair(func(b int, f, g impl.Frac) {
		less := impl.SumLess(b, f, g)
		if want := f.Top*g.Bottom < g.Top*f.Bottom; less != want {
			t.Fatalf("SumLess(%d, %v, %v) is not %v", b, f, g, want)
		}
		exchanged := impl.SumLess(b, g, f)
		if less && exchanged || exchanged != (!less && f != g) {
			t.Fatalf("SumLess(%d, %v, %v) is %v, and for both exchanged %v", b, f, g, less, exchanged)
		}
		place := firstOther(t, b, f, g)
		if (place < 0) != (f == g) {
			t.Fatalf("the digits of %v and %v in base %d differ at %d first", f, g, b, place)
		}
		if place < 0 {
			same++
			return
		}
		if (digitsOf(t, b, f, place+1)[place] < digitsOf(t, b, g, place+1)[place]) != less {
			t.Fatalf("SumLess(%d, %v, %v) is %v, but the first digits that differ, at %d, tell the other", b, f, g, less, place)
		}
		if less {
			held++
		}
		if place > 12 {
			late++
		}
	})
	if held < 1000 || same < 1000 || late < 100 {
		t.Fatalf("SumLess holds %d times, for %d pairs that are the same, and %d that differ late", held, same, late)
	}
}
