package tests

import (
	"fmt"
	"math/big"
	"slices"
	"strings"
	"testing"

	"loop.example/fractionrounds/impl"
)

const (
	greatestRing   = 250 // digits of a ring
	greatestTurn   = 250
	greatestTimes  = 100
	greatestCyclic = 200
)

func TestTurnByTold(t *testing.T) {
	for _, x := range []struct {
		b    int
		d    []int
		k    int
		want []int
	}{
		{2, []int{0}, 0, []int{0}}, {2, []int{1}, 1, []int{1}}, {16, []int{15}, 250, []int{15}},
		{10, []int{1, 2, 3}, 0, []int{1, 2, 3}}, {10, []int{1, 2, 3}, 1, []int{2, 3, 1}}, {10, []int{1, 2, 3}, 2, []int{3, 1, 2}},
		{10, []int{1, 2, 3}, 3, []int{1, 2, 3}}, {10, []int{1, 2, 3}, 4, []int{2, 3, 1}}, {10, []int{1, 2, 3}, 8, []int{3, 1, 2}},
		{10, []int{1, 2, 3}, 249, []int{1, 2, 3}}, {10, []int{1, 2, 3}, 250, []int{2, 3, 1}},
		{10, []int{0, 7, 6}, 1, []int{7, 6, 0}}, {10, []int{7, 6, 0}, 2, []int{0, 7, 6}}, {10, []int{0, 0, 0, 4}, 3, []int{4, 0, 0, 0}}, {10, []int{0, 0, 0}, 2, []int{0, 0, 0}},
		{2, []int{0, 0, 1}, 1, []int{0, 1, 0}}, {2, []int{0, 1, 0, 1}, 2, []int{0, 1, 0, 1}}, {16, []int{0, 15}, 1, []int{15, 0}}, {16, []int{10, 11, 12, 13}, 3, []int{13, 10, 11, 12}},
	} {
		got, ok := impl.TurnBy(x.b, x.d, x.k)
		wantList(t, fmt.Sprintf("TurnBy(%d, %v, %d)", x.b, x.d, x.k), got, ok, x.want)
	}
}

func TestTurnTimesTold(t *testing.T) {
	for _, x := range []struct {
		b    int
		d    []int
		k    int
		want []int
		ok   bool
	}{
		// Times 0 and 1, and rings that are all 0.
		{10, []int{7}, 0, []int{0}, true}, {10, []int{9, 9, 9}, 0, []int{0, 0, 0}, true}, {2, []int{1}, 1, []int{1}, true}, {16, []int{15, 15}, 1, []int{15, 15}, true},
		{10, []int{0}, 100, []int{0}, true}, {10, []int{0, 0, 0}, 37, []int{0, 0, 0}, true}, {2, []int{0, 0}, 100, []int{0, 0}, true},
		// Products that just fit, and the next ones.
		{10, []int{1}, 9, []int{9}, true}, {10, []int{1}, 10, nil, false}, {10, []int{3}, 3, []int{9}, true}, {10, []int{3}, 4, nil, false},
		{10, []int{5}, 1, []int{5}, true}, {10, []int{5}, 2, nil, false}, {10, []int{3, 3}, 3, []int{9, 9}, true}, {10, []int{5, 0}, 2, nil, false}, {10, []int{2, 5}, 4, nil, false},
		{10, []int{0, 1}, 99, []int{9, 9}, true}, {10, []int{0, 1}, 100, nil, false}, {10, []int{0, 0, 9}, 100, []int{9, 0, 0}, true}, {10, []int{0, 1, 0}, 99, []int{9, 9, 0}, true}, {10, []int{0, 1, 0}, 100, nil, false},
		{2, []int{1}, 2, nil, false}, {2, []int{0, 1}, 3, []int{1, 1}, true}, {2, []int{0, 1}, 4, nil, false}, {2, []int{0, 0, 0, 0, 0, 0, 1}, 100, []int{1, 1, 0, 0, 1, 0, 0}, true}, {2, []int{0, 0, 0, 0, 0, 1}, 64, nil, false},
		{16, []int{1}, 15, []int{15}, true}, {16, []int{1}, 16, nil, false}, {16, []int{0, 3}, 85, []int{15, 15}, true}, {16, []int{0, 3}, 86, nil, false},
		// Carries, and 0 in front of the ring and of the product.
		{10, []int{1, 4, 2, 8, 5, 7}, 5, []int{7, 1, 4, 2, 8, 5}, true}, {10, []int{1, 4, 2, 8, 5, 7}, 7, []int{9, 9, 9, 9, 9, 9}, true}, {10, []int{1, 4, 2, 8, 5, 7}, 8, nil, false},
		{10, []int{0, 7, 6, 9, 2, 3}, 4, []int{3, 0, 7, 6, 9, 2}, true}, {10, []int{0, 0, 5}, 2, []int{0, 1, 0}, true}, {10, []int{0, 0, 0, 4}, 2, []int{0, 0, 0, 8}, true}, {10, []int{0, 9, 9}, 10, []int{9, 9, 0}, true},
		{16, []int{0, 15}, 16, []int{15, 0}, true}, {16, []int{0, 15, 15}, 15, []int{14, 15, 1}, true},
	} {
		got, ok := impl.TurnTimes(x.b, x.d, x.k)
		if ok != x.ok || !slices.Equal(got, x.want) {
			t.Errorf("TurnTimes(%d, %v, %d) = %v, %v, not %v, %v", x.b, x.d, x.k, got, ok, x.want, x.ok)
		}
	}
}

// toldRings are rings with what TurnAll and TurnLeast tell, and all numbers for which TurnIs holds, worked out by hand.
var toldRings = []struct {
	b     int
	d     []int
	all   []int
	least int
	is    []int
}{
	{2, []int{1}, []int{1}, 1, []int{1}},
	{10, []int{7}, []int{1}, 1, []int{1}},
	{10, []int{9, 9}, []int{1}, 1, []int{1}},
	{2, []int{0, 1}, []int{1, 2}, 2, []int{2}},
	{2, []int{0, 0, 1}, []int{1, 2, 4}, 3, []int{4}},
	{2, []int{0, 1, 1}, []int{1, 2}, 3, nil},
	{2, []int{0, 0, 1, 1}, []int{1, 2, 3, 4}, 4, []int{3}},
	{2, []int{1, 0, 0, 1}, []int{1}, 4, nil},
	{2, []int{0, 0, 0, 0, 0, 0, 1}, []int{1, 2, 4, 8, 16, 32, 64}, 7, []int{64}},
	{2, []int{0, 0, 0, 0, 0, 0, 0, 1}, []int{1, 2, 4, 8, 16, 32, 64}, 8, nil},
	{3, []int{0, 2}, []int{1, 3}, 2, []int{3}},
	{10, []int{0, 1}, []int{1, 10}, 2, []int{10}},
	{10, []int{1, 0}, []int{1}, 2, nil},
	{10, []int{0, 0, 1}, []int{1, 10, 100}, 3, []int{100}},
	{10, []int{0, 0, 9}, []int{1, 10, 100}, 3, []int{100}},
	{10, []int{0, 0, 1, 0}, []int{1, 10, 100}, 4, nil},
	{10, []int{0, 0, 0, 1}, []int{1, 10, 100}, 4, nil},
	{10, []int{0, 9, 9}, []int{1, 10}, 3, nil},
	{10, []int{0, 2, 7}, []int{1, 10, 26}, 3, []int{26}},
	{10, []int{1, 2, 3}, []int{1}, 3, nil},
	{10, []int{1, 4, 2, 8, 5, 7}, []int{1, 2, 3, 4, 5, 6}, 6, []int{5}},
	{10, []int{0, 7, 6, 9, 2, 3}, []int{1, 3, 4, 9, 10, 12}, 6, []int{4}},
	{10, []int{1, 5, 3, 8, 4, 6}, []int{1, 3, 4}, 6, []int{4}},
	{16, []int{0, 15}, []int{1, 16}, 2, []int{16}},
	{16, []int{0, 0, 1}, []int{1, 16}, 3, nil},
	{16, []int{1, 6}, []int{1}, 2, nil},
	{16, []int{1, 7, 4, 5, 13}, []int{1, 3, 4, 5, 9}, 5, []int{9}},
	// Rings that come again sooner than by all their digits.
	{2, []int{0, 1, 0, 1}, []int{1, 2}, 2, []int{2}},
	{10, []int{0, 1, 0, 1, 0, 1}, []int{1, 10}, 2, []int{10}},
	{10, []int{1, 4, 2, 8, 5, 7, 1, 4, 2, 8, 5, 7}, []int{1, 2, 3, 4, 5, 6}, 6, []int{5}},
	{16, []int{15, 15, 15, 15}, []int{1}, 1, []int{1}},
	// Rings that are the same from their middle on, but not all the way.
	{10, []int{1, 2, 1, 2, 1}, []int{1}, 5, nil},
	{10, []int{1, 1, 2, 1, 1, 3}, []int{1}, 6, nil},
}

func TestRingsTold(t *testing.T) {
	for _, x := range toldRings {
		all, ok := impl.TurnAll(x.b, x.d)
		wantList(t, fmt.Sprintf("TurnAll(%d, %v)", x.b, x.d), all, ok, x.all)
		least, ok := impl.TurnLeast(x.b, x.d)
		wantNumber(t, fmt.Sprintf("TurnLeast(%d, %v)", x.b, x.d), least, ok, x.least, true)
		for k := -1; k <= greatestTimes+1; k++ {
			if impl.TurnIs(x.b, x.d, k) != slices.Contains(x.is, k) {
				t.Errorf("TurnIs(%d, %v, %d) is %v", x.b, x.d, k, !slices.Contains(x.is, k))
			}
		}
	}
}

// TestRingsOfZeros looks at rings that are all 0: times each number they are themselves, turned by each.
func TestRingsOfZeros(t *testing.T) {
	hundred := make([]int, greatestTimes)
	for i := range hundred {
		hundred[i] = i + 1
	}
	for b := leastBase; b <= greatestBase; b++ {
		for _, n := range []int{1, 2, 6, 125, 126, 249, 250} {
			d := make([]int, n)
			all, ok := impl.TurnAll(b, d)
			wantList(t, fmt.Sprintf("TurnAll(%d, %d times 0)", b, n), all, ok, hundred)
			least, ok := impl.TurnLeast(b, d)
			wantNumber(t, fmt.Sprintf("TurnLeast(%d, %d times 0)", b, n), least, ok, 1, true)
			for k := range greatestTimes + 1 {
				product, ok := impl.TurnTimes(b, d, k)
				wantList(t, fmt.Sprintf("TurnTimes(%d, %d times 0, %d)", b, n, k), product, ok, d)
				if !impl.TurnIs(b, d, k) {
					t.Errorf("TurnIs(%d, %d times 0, %d) does not hold", b, n, k)
				}
			}
			for k := range greatestTurn + 1 {
				turn, ok := impl.TurnBy(b, d, k)
				wantList(t, fmt.Sprintf("TurnBy(%d, %d times 0, %d)", b, n, k), turn, ok, d)
			}
		}
	}
}

func TestTurnFindTold(t *testing.T) {
	for _, x := range []struct {
		b, k, d int
		want    []int
	}{
		{3, 1, 1, []int{1}}, {3, 2, 1, []int{0, 1, 2, 1}}, {3, 2, 2, []int{1, 0, 1, 2}}, {4, 2, 1, []int{0, 2, 1}},
		{10, 1, 1, []int{1}}, {10, 1, 8, []int{8}},
		{10, 2, 1, []int{0, 5, 2, 6, 3, 1, 5, 7, 8, 9, 4, 7, 3, 6, 8, 4, 2, 1}}, {10, 2, 9, []int{4, 7, 3, 6, 8, 4, 2, 1, 0, 5, 2, 6, 3, 1, 5, 7, 8, 9}},
		// The bottom 39 has common divisors with 3, 6 and 9, and 49 has with 7.
		{10, 4, 1, []int{0, 2, 5, 6, 4, 1}}, {10, 4, 3, []int{0, 7, 6, 9, 2, 3}}, {10, 4, 6, []int{1, 5, 3, 8, 4, 6}}, {10, 4, 9, []int{2, 3, 0, 7, 6, 9}}, {10, 5, 7, []int{1, 4, 2, 8, 5, 7}},
		{16, 1, 1, []int{1}}, {16, 1, 14, []int{14}}, {16, 2, 1, []int{0, 8, 4, 2, 1}}, {16, 4, 9, []int{2, 4, 9}}, {16, 6, 5, []int{0, 13, 7, 9, 4, 3, 5, 14, 5}},
	} {
		got, ok := impl.TurnFind(x.b, x.k, x.d)
		wantList(t, fmt.Sprintf("TurnFind(%d, %d, %d)", x.b, x.k, x.d), got, ok, x.want)
	}
	// k and d just outside; in base 2 nothing is left.
	for _, x := range [][3]int{
		{2, 1, 1}, {2, 1, 0}, {2, 2, 1}, {2, 0, 1}, {3, 1, 2}, {3, 2, 3}, {3, 3, 1}, {10, 0, 1}, {10, 1, 0}, {10, 1, 9}, {10, 1, 10},
		{10, 4, 0}, {10, 4, 10}, {10, 4, 38}, {10, 4, 39}, {10, 4, -1}, {10, -4, 4}, {10, 9, 10}, {10, 10, 1}, {10, 10, 9}, {16, 1, 15}, {16, 15, 16}, {16, 16, 1}, {16, 15, 0},
	} {
		got, ok := impl.TurnFind(x[0], x[1], x[2])
		wantNoList(t, fmt.Sprintf("TurnFind%v", x), got, ok)
	}
}

func TestTurnCyclicTold(t *testing.T) {
	for _, x := range []struct {
		b, p int
		want []int
	}{
		{3, 2, []int{1}}, {5, 2, []int{2}}, {9, 2, []int{4}}, {15, 2, []int{7}},
		{2, 3, []int{0, 1}}, {2, 5, []int{0, 0, 1, 1}}, {2, 11, []int{0, 0, 0, 1, 0, 1, 1, 1, 0, 1}}, {3, 5, []int{0, 1, 2, 1}}, {3, 7, []int{0, 1, 0, 2, 1, 2}},
		{6, 11, []int{0, 3, 1, 3, 4, 5, 2, 4, 2, 1}}, {7, 5, []int{1, 2, 5, 4}},
		{10, 7, []int{1, 4, 2, 8, 5, 7}}, {10, 17, []int{0, 5, 8, 8, 2, 3, 5, 2, 9, 4, 1, 1, 7, 6, 4, 7}}, {10, 19, []int{0, 5, 2, 6, 3, 1, 5, 7, 8, 9, 4, 7, 3, 6, 8, 4, 2, 1}},
	} {
		got, ok := impl.TurnCyclic(x.b, x.p)
		wantList(t, fmt.Sprintf("TurnCyclic(%d, %d)", x.b, x.p), got, ok, x.want)
	}
	for _, x := range [][3]int{{2, 197, 196}, {3, 199, 198}, {15, 199, 198}, {10, 193, 192}, {16, 0, 0}} {
		if got, ok := impl.TurnCyclic(x[0], x[1]); ok != (x[2] > 0) || len(got) != x[2] {
			t.Errorf("TurnCyclic(%d, %d) = %v, %v has not %d digits", x[0], x[1], got, ok, x[2])
		}
	}
	for _, x := range [][2]int{
		// Primes that are not full, those that divide the base among them; in base 16 no prime is full.
		{2, 2}, {10, 2}, {16, 2}, {10, 3}, {10, 5}, {10, 11}, {10, 13}, {10, 37}, {2, 7}, {2, 17}, {2, 199}, {10, 199}, {3, 3}, {3, 11}, {16, 3}, {16, 7}, {16, 17}, {16, 197},
		// Full primes above 200, and 200 itself.
		{10, 200}, {3, 200}, {2, 211}, {10, 223}, {3, 211}, {2, 227}, {10, 983}, {2, 1019},
		// Numbers that are no primes, also where the order is 1 less.
		{10, 0}, {10, 1}, {3, 1}, {2, 1}, {10, -7}, {10, 9}, {3, 4}, {2, 9}, {10, 49}, {2, 25}, {16, 15}, {3, 10},
	} {
		got, ok := impl.TurnCyclic(x[0], x[1])
		wantNoList(t, fmt.Sprintf("TurnCyclic%v", x), got, ok)
	}
}

// mixedRing returns n digits of a base that follow no short rule.
func mixedRing(b, n int) []int {
	d := make([]int, n)
	for i, state := 0, b+n; i < n; i++ {
		state = (state*1103515245 + 12345) % 2147483648
		d[i] = state / 65536 % b
	}
	return d
}

// someRings returns rings of a base: short ones, ones with 0 in front, rounds, long ones, and ones that come again sooner.
func someRings(b int) [][]int {
	var rings [][]int
	some := digitsBelow(b)
	if b > 4 {
		some = []int{0, 1, b / 2, b - 1}
	}
	for length := 1; length <= 4; length++ {
		eachList(length, some, func(list []int) { rings = append(rings, slices.Clone(list)) })
	}
	for _, n := range []int{3, 7, 11, 13, 17, 27, 37, 61, 241, 251} {
		if divisor(b, n) == 1 {
			_, again := longDivision(b, impl.Frac{Top: 1, Bottom: n})
			rings = append(rings, again, slices.Concat(again, again), slices.Concat(again, again[:1]))
		}
	}
	for _, n := range []int{5, 6, 12, 125, 126, 249, 250} {
		front := mixedRing(b, n)
		clear(front[:n-n/3])
		last := make([]int, n)
		last[n-1] = b - 1
		rings = append(rings, mixedRing(b, n), front, last, make([]int, n), slices.Repeat([]int{b - 1}, n))
	}
	for n := 1; n <= 25; n++ {
		rings = append(rings, slices.Repeat(mixedRing(b, n), greatestRing/n))
	}
	return slices.DeleteFunc(rings, func(d []int) bool { return len(d) > greatestRing })
}

// eachRing calls a test for all bases and some rings.
func eachRing(check func(b int, d []int)) {
	for b := leastBase; b <= greatestBase; b++ {
		for _, d := range someRings(b) {
			check(b, d)
		}
	}
}

// turnedBy returns a list turned by k, digit by digit.
func turnedBy(d []int, k int) []int {
	turn := make([]int, len(d))
	for i := range turn {
		turn[i] = d[(i+k)%len(d)]
	}
	return turn
}

// timesOf returns a ring times k, or nothing if this has more digits.
func timesOf(b int, d []int, k int) []int {
	number := bigOf(b, d)
	number.Mul(number, big.NewInt(int64(k)))
	product := make([]int, len(d))
	base, digit := big.NewInt(int64(b)), new(big.Int)
	for i := len(d) - 1; i >= 0; i-- {
		number.DivMod(number, base, digit)
		product[i] = int(digit.Int64())
	}
	if number.Sign() != 0 {
		return nil
	}
	return product
}

func sumOf(list []int) int {
	sum := 0
	for _, number := range list {
		sum += number
	}
	return sum
}

// turnBy and turnAll are for arguments for which the functions must succeed.
func turnBy(t *testing.T, b int, d []int, k int) []int {
	t.Helper()
	turn, ok := impl.TurnBy(b, d, k)
	if !ok {
		t.Fatalf("TurnBy(%d, %v, %d) fails", b, d, k)
	}
	return turn
}

func turnAll(t *testing.T, b int, d []int) []int {
	t.Helper()
	all, ok := impl.TurnAll(b, d)
	if !ok {
		t.Fatalf("TurnAll(%d, %v) fails", b, d)
	}
	return all
}

// TestP33 turns by all numbers, and back by what lacks to a multiple of the number of digits.
func TestP33(t *testing.T) {
	eachRing(func(b int, d []int) {
		for k := range greatestTurn + 1 {
			turn := turnBy(t, b, d, k)
			if !slices.Equal(turn, turnedBy(d, k)) || sumOf(turn) != sumOf(d) {
				t.Fatalf("TurnBy(%d, %v, %d) = %v", b, d, k, turn)
			}
			lack := (len(d) - k%len(d)) % len(d)
			if back := turnBy(t, b, turn, lack); !slices.Equal(back, d) {
				t.Fatalf("TurnBy(%d, %v, %d) = %v, but this by %d is %v", b, d, k, turn, lack, back)
			}
		}
	})
}

// TestP34 compares TurnTimes with products of numbers, and sums of digits with each other.
func TestP34(t *testing.T) {
	fit, longer := 0, 0
	eachRing(func(b int, d []int) {
		for k := range greatestTimes + 1 {
			product, ok := impl.TurnTimes(b, d, k)
			want := timesOf(b, d, k)
			if ok != (want != nil) || !slices.Equal(product, want) {
				t.Fatalf("TurnTimes(%d, %v, %d) = %v, %v, not %v", b, d, k, product, ok, want)
			}
			if !ok {
				longer++
				continue
			}
			fit++
			if (sumOf(product)-sumOf(d)*k)%(b-1) != 0 {
				t.Fatalf("TurnTimes(%d, %v, %d) = %v has another sum of digits", b, d, k, product)
			}
		}
	})
	if fit < 1000 || longer < 1000 {
		t.Fatalf("%d products have as many digits, and %d have more", fit, longer)
	}
}

// TestP35 compares TurnIs with products of numbers, and asks for rings written twice.
func TestP35(t *testing.T) {
	held := 0
	eachRing(func(b int, d []int) {
		front := turnedBy(d, len(d)-1)
		twice := slices.Concat(d, d)
		for k := range greatestTimes + 1 {
			want := slices.Equal(timesOf(b, d, k), front)
			if impl.TurnIs(b, d, k) != want {
				t.Fatalf("TurnIs(%d, %v, %d) is not %v", b, d, k, want)
			}
			if !want {
				continue
			}
			held++
			if impl.TurnIs(b, twice, k) != (len(twice) <= greatestRing) {
				t.Fatalf("TurnIs(%d, %v, %d) holds, but not as told for the ring written twice", b, d, k)
			}
		}
	})
	if held < 1000 {
		t.Fatalf("TurnIs holds %d times", held)
	}
}

// TestP36 checks TurnFind for all bases, numbers and digits, and what is just outside of them.
func TestP36(t *testing.T) {
	for b := leastBase; b <= greatestBase; b++ {
		for k := -2; k <= b+2; k++ {
			for d := -2; d <= b+2; d++ {
				name := fmt.Sprintf("TurnFind(%d, %d, %d)", b, k, d)
				got, ok := impl.TurnFind(b, k, d)
				if k < 1 || k >= b || d < 1 || d >= b || d >= k*b-1 {
					wantNoList(t, name, got, ok)
					continue
				}
				_, want := longDivision(b, impl.Frac{Top: d, Bottom: k*b - 1})
				wantList(t, name, got, ok, want)
				if got[len(got)-1] != d || !impl.TurnIs(b, got, k) {
					t.Fatalf("%s = %v does not end with %d, or TurnIs does not hold", name, got, d)
				}
			}
		}
	}
}

// textOf writes digits beside each other.
func textOf(digits []int) string {
	var text strings.Builder
	for _, digit := range digits {
		text.WriteByte("0123456789abcdef"[digit])
	}
	return text.String()
}

// allTurns returns all numbers up to 100 for which a ring times each is the ring turned, by products of numbers.
func allTurns(b int, d []int) []int {
	var all []int
	// Each turn of a ring stands in the ring written twice.
	twice := textOf(slices.Concat(d, d))
	for k := 1; k <= greatestTimes; k++ {
		product := timesOf(b, d, k)
		if product != nil && strings.Contains(twice, textOf(product)) {
			all = append(all, k)
		}
	}
	return all
}

// TestP37 compares TurnAll with products of numbers, and the sums of their digits with each other.
func TestP37(t *testing.T) {
	more := 0
	eachRing(func(b int, d []int) {
		all := turnAll(t, b, d)
		if want := allTurns(b, d); !slices.Equal(all, want) {
			t.Fatalf("TurnAll(%d, %v) = %v, not %v", b, d, all, want)
		}
		if len(all) > 1 {
			more++
		}
		for i, k := range all {
			product, ok := impl.TurnTimes(b, d, k)
			if i == 0 && k != 1 || i > 0 && k <= all[i-1] || !ok || sumOf(product) != sumOf(d) {
				t.Fatalf("TurnAll(%d, %v) = %v, but TurnTimes for %d is %v, %v", b, d, all, k, product, ok)
			}
		}
	})
	if more < 1000 {
		t.Fatalf("%d rings turn by products greater than 1", more)
	}
}

// checkCyclic multiplies what TurnCyclic returned.
func checkCyclic(t *testing.T, b, p int, d []int) {
	t.Helper()
	twice := textOf(slices.Concat(d, d))
	for k := 1; k < p && k <= greatestTimes; k++ {
		product, ok := impl.TurnTimes(b, d, k)
		if !ok || len(product) != len(d) || !strings.Contains(twice, textOf(product)) {
			t.Fatalf("TurnCyclic(%d, %d) = %v, but times %d it is %v, %v", b, p, d, k, product, ok)
		}
	}
	if p > greatestTimes {
		return
	}
	all := turnAll(t, b, d)
	for k := 1; k < p; k++ {
		if !slices.Contains(all, k) {
			t.Fatalf("TurnCyclic(%d, %d) = %v, but TurnAll of it is %v", b, p, d, all)
		}
	}
	if nines, ok := impl.TurnTimes(b, d, p); !ok || !onlyGreatest(b, nines) {
		t.Fatalf("TurnCyclic(%d, %d) = %v, but times %d it is %v, %v", b, p, d, p, nines, ok)
	}
}

// TestP38 checks TurnCyclic for all bases and numbers, and what is just outside of them.
func TestP38(t *testing.T) {
	primes := smallPrimes()
	found := 0
	for b := leastBase; b <= greatestBase; b++ {
		for p := -2; p <= bottomMax+1; p++ {
			name := fmt.Sprintf("TurnCyclic(%d, %d)", b, p)
			got, ok := impl.TurnCyclic(b, p)
			if p > greatestCyclic || !slices.Contains(primes, p) || divisor(b, p) != 1 {
				wantNoList(t, name, got, ok)
				continue
			}
			_, want := longDivision(b, impl.Frac{Top: 1, Bottom: p})
			if len(want) != p-1 {
				wantNoList(t, name, got, ok)
				continue
			}
			found++
			wantList(t, name, got, ok, want)
			checkCyclic(t, b, p, got)
		}
	}
	if found < 100 {
		t.Fatalf("%d primes are full", found)
	}
}

// TestP39 compares TurnLeast with all turns of a ring.
func TestP39(t *testing.T) {
	sooner := 0
	eachRing(func(b int, d []int) {
		want := 1
		for !slices.Equal(turnedBy(d, want), d) {
			want++
		}
		least, ok := impl.TurnLeast(b, d)
		wantNumber(t, fmt.Sprintf("TurnLeast(%d, %v)", b, d), least, ok, want, true)
		if least < 1 || len(d)%least != 0 || !slices.Equal(turnBy(t, b, d, least), d) {
			t.Fatalf("TurnLeast(%d, %v) = %d does not lead to the ring, or divide the number of its digits", b, d, least)
		}
		if least > 1 && least < len(d) {
			sooner++
		}
	})
	if sooner < 100 {
		t.Fatalf("%d rings come again sooner", sooner)
	}
}
