package tests

import (
	"fmt"
	"math/big"
	"slices"
	"testing"

	"loop.example/fractionrounds/impl"
)

// order, orderUnits, orderMost and orderSplit are for arguments for which the functions must succeed.
func order(t *testing.T, b, n int) int {
	t.Helper()
	k, ok := impl.OrderOf(b, n)
	if !ok || k < 1 {
		t.Fatalf("OrderOf(%d, %d) = %d, %v", b, n, k, ok)
	}
	return k
}

func orderUnits(t *testing.T, n int) int {
	t.Helper()
	count, ok := impl.OrderUnits(n)
	if !ok || count < 1 {
		t.Fatalf("OrderUnits(%d) = %d, %v", n, count, ok)
	}
	return count
}

func orderMost(t *testing.T, n int) int {
	t.Helper()
	k, ok := impl.OrderMost(n)
	if !ok || k < 1 {
		t.Fatalf("OrderMost(%d) = %d, %v", n, k, ok)
	}
	return k
}

func orderSplit(t *testing.T, b, n int) (int, int) {
	t.Helper()
	first, second, ok := impl.OrderSplit(b, n)
	if !ok || first < 1 || second < 1 {
		t.Fatalf("OrderSplit(%d, %d) = %d, %d, %v", b, n, first, second, ok)
	}
	return first, second
}

// eachBottom calls a test for all bases and bottoms from 2 to BottomMax.
func eachBottom(check func(b, n int)) {
	for b := leastBase; b <= greatestBase; b++ {
		for n := 2; n <= bottomMax; n++ {
			check(b, n)
		}
	}
}

// smallPrimes are the primes up to BottomMax, found by a sieve.
func smallPrimes() []int {
	var list []int
	struck := make([]bool, bottomMax+1)
	for p := 2; p <= bottomMax; p++ {
		if struck[p] {
			continue
		}
		list = append(list, p)
		for multiple := p; multiple <= bottomMax; multiple += p {
			struck[multiple] = true
		}
	}
	return list
}

// primesIn returns the primes that divide a number.
func primesIn(n int) []int {
	return slices.DeleteFunc(smallPrimes(), func(p int) bool { return n%p != 0 })
}

// powerIsOne reports whether n divides a number to the power of k, less 1.
func powerIsOne(number, k, n int) bool {
	power := new(big.Int).Exp(big.NewInt(int64(number)), big.NewInt(int64(k)), nil)
	power.Sub(power, big.NewInt(1))
	return power.Mod(power, big.NewInt(int64(n))).Sign() == 0
}

// wantNumber checks what returns one number.
func wantNumber(t *testing.T, name string, got int, gotOK bool, want int, wantOK bool) {
	t.Helper()
	if gotOK != wantOK || got != want {
		t.Errorf("%s = %d, %v, not %d, %v", name, got, gotOK, want, wantOK)
	}
}

func TestOrderOfTold(t *testing.T) {
	for _, x := range []struct {
		b, n, want int
		ok         bool
	}{
		// The number 2: of odd bases alone.
		{3, 2, 1, true}, {5, 2, 1, true}, {9, 2, 1, true}, {15, 2, 1, true},
		{2, 2, 0, false}, {4, 2, 0, false}, {10, 2, 0, false}, {16, 2, 0, false},
		{2, 3, 2, true}, {2, 7, 3, true}, {2, 9, 6, true}, {2, 999, 36, true}, {2, 997, 332, true},
		{10, 3, 1, true}, {10, 7, 6, true}, {10, 9, 1, true}, {10, 11, 2, true}, {10, 13, 6, true}, {10, 21, 6, true},
		{10, 37, 3, true}, {10, 41, 5, true}, {10, 983, 982, true}, {10, 997, 166, true}, {10, 999, 3, true},
		{16, 15, 1, true}, {16, 17, 2, true}, {16, 999, 9, true},
		{3, 1000, 100, true}, {7, 1000, 20, true}, {9, 1000, 50, true},
		// Common divisors, and numbers whose prime divisors are all those of the base.
		{2, 4, 0, false}, {10, 5, 0, false}, {10, 12, 0, false}, {6, 9, 0, false}, {10, 1000, 0, false}, {2, 1000, 0, false}, {16, 1000, 0, false}, {15, 999, 0, false},
		{2, 1, 0, false}, {10, 1, 0, false}, {16, 1, 0, false}, {2, 1001, 0, false}, {10, 1001, 0, false}, {16, 1001, 0, false},
	} {
		got, ok := impl.OrderOf(x.b, x.n)
		wantNumber(t, fmt.Sprintf("OrderOf(%d, %d)", x.b, x.n), got, ok, x.want, x.ok)
	}
}

func TestOrderUnitsTold(t *testing.T) {
	for _, x := range []struct {
		n, want int
		ok      bool
	}{
		{2, 1, true}, {3, 2, true}, {4, 2, true}, {5, 4, true}, {6, 2, true}, {8, 4, true}, {9, 6, true}, {10, 4, true}, {12, 4, true},
		{30, 8, true}, {210, 48, true}, {512, 256, true}, {961, 930, true}, {997, 996, true}, {998, 498, true}, {999, 648, true}, {1000, 400, true},
		{1, 0, false}, {1001, 0, false},
	} {
		got, ok := impl.OrderUnits(x.n)
		wantNumber(t, fmt.Sprintf("OrderUnits(%d)", x.n), got, ok, x.want, x.ok)
	}
}

func TestOrderMostTold(t *testing.T) {
	for _, x := range []struct {
		n, want int
		ok      bool
	}{
		{2, 1, true}, {3, 2, true}, {4, 2, true}, {5, 4, true}, {6, 2, true}, {7, 6, true}, {8, 2, true}, {9, 6, true}, {10, 4, true}, {12, 2, true},
		{15, 4, true}, {16, 4, true}, {24, 2, true}, {30, 4, true}, {240, 4, true}, {504, 6, true}, {512, 128, true},
		{997, 996, true}, {998, 498, true}, {999, 36, true}, {1000, 100, true},
		{1, 0, false}, {1001, 0, false},
	} {
		got, ok := impl.OrderMost(x.n)
		wantNumber(t, fmt.Sprintf("OrderMost(%d)", x.n), got, ok, x.want, x.ok)
	}
}

func TestOrderFullTold(t *testing.T) {
	for _, x := range []struct {
		b, n int
		want []int
	}{
		// The number 2 is full in odd bases, also where no other prime is.
		{3, 2, []int{2}}, {5, 2, []int{2}}, {9, 2, []int{2}}, {15, 2, []int{2}},
		{2, 2, nil}, {10, 2, nil}, {16, 2, nil},
		{9, 1000, []int{2}}, {4, 1000, nil}, {16, 1000, nil},
		{2, 3, []int{3}},
		{2, 100, []int{3, 5, 11, 13, 19, 29, 37, 53, 59, 61, 67, 83}},
		{3, 100, []int{2, 5, 7, 17, 19, 29, 31, 43, 53, 79, 89}},
		{10, 6, nil}, {10, 7, []int{7}}, {10, 16, []int{7}}, {10, 17, []int{7, 17}},
		{10, 100, []int{7, 17, 19, 23, 29, 47, 59, 61, 97}},
		{15, 20, []int{2, 13, 19}},
	} {
		got, ok := impl.OrderFull(x.b, x.n)
		if !ok || !slices.Equal(got, x.want) {
			t.Errorf("OrderFull(%d, %d) = %v, %v, not %v", x.b, x.n, got, ok, x.want)
		}
	}
}

func TestOrderOnesTold(t *testing.T) {
	for _, x := range []struct {
		b, n, want int
		ok         bool
	}{
		// The number 2: a row of one digit is odd, and one of two is even in odd bases.
		{3, 2, 2, true}, {5, 2, 2, true}, {9, 2, 2, true}, {15, 2, 2, true},
		{2, 2, 0, false}, {4, 2, 0, false}, {10, 2, 0, false}, {16, 2, 0, false},
		{2, 3, 2, true}, {2, 7, 3, true}, {2, 9, 6, true},
		{3, 4, 2, true}, {3, 8, 4, true}, {5, 4, 4, true}, {7, 3, 3, true}, {7, 6, 6, true},
		{10, 3, 3, true}, {10, 7, 6, true}, {10, 9, 9, true}, {10, 11, 2, true}, {10, 27, 27, true}, {10, 33, 6, true},
		{10, 37, 3, true}, {10, 41, 5, true}, {10, 81, 81, true}, {10, 271, 5, true}, {10, 983, 982, true}, {10, 999, 27, true},
		{16, 3, 3, true}, {16, 5, 5, true}, {16, 15, 15, true}, {16, 17, 2, true},
		{10, 5, 0, false}, {10, 12, 0, false}, {6, 9, 0, false}, {10, 1000, 0, false}, {16, 512, 0, false},
		{2, 1, 0, false}, {10, 1, 0, false}, {16, 1, 0, false}, {2, 1001, 0, false}, {10, 1001, 0, false}, {16, 1001, 0, false},
	} {
		got, ok := impl.OrderOnes(x.b, x.n)
		wantNumber(t, fmt.Sprintf("OrderOnes(%d, %d)", x.b, x.n), got, ok, x.want, x.ok)
	}
}

func TestOrderSplitAndBeginTold(t *testing.T) {
	for _, x := range []struct {
		b, n, first, second, begin int
		ok                         bool
	}{
		{2, 2, 2, 1, 1, true}, {4, 2, 2, 1, 1, true}, {10, 2, 2, 1, 1, true}, {16, 2, 2, 1, 1, true},
		{3, 2, 1, 2, 0, true}, {9, 2, 1, 2, 0, true}, {15, 2, 1, 2, 0, true},
		{10, 7, 1, 7, 0, true}, {10, 999, 1, 999, 0, true}, {2, 3, 1, 3, 0, true}, {16, 17, 1, 17, 0, true},
		{10, 12, 4, 3, 2, true}, {2, 12, 4, 3, 2, true}, {16, 12, 4, 3, 1, true}, {12, 720, 144, 5, 2, true},
		{2, 1000, 8, 125, 3, true}, {6, 1000, 8, 125, 3, true}, {15, 1000, 125, 8, 3, true}, {16, 1000, 8, 125, 1, true},
		// Numbers whose prime divisors are all those of the base.
		{4, 8, 8, 1, 2, true}, {12, 8, 8, 1, 2, true}, {12, 16, 16, 1, 2, true}, {12, 18, 18, 1, 2, true}, {6, 972, 972, 1, 5, true}, {14, 686, 686, 1, 3, true},
		{10, 625, 625, 1, 4, true}, {10, 640, 640, 1, 7, true}, {10, 1000, 1000, 1, 3, true},
		{2, 512, 512, 1, 9, true}, {4, 512, 512, 1, 5, true}, {8, 512, 512, 1, 3, true}, {10, 512, 512, 1, 9, true}, {16, 512, 512, 1, 3, true},
		{2, 1, 0, 0, 0, false}, {10, 1, 0, 0, 0, false}, {16, 1, 0, 0, 0, false}, {2, 1001, 0, 0, 0, false}, {10, 1001, 0, 0, 0, false}, {16, 1001, 0, 0, 0, false},
	} {
		first, second, ok := impl.OrderSplit(x.b, x.n)
		if ok != x.ok || first != x.first || second != x.second {
			t.Errorf("OrderSplit(%d, %d) = %d, %d, %v, not %d, %d, %v", x.b, x.n, first, second, ok, x.first, x.second, x.ok)
		}
		k, ok := impl.OrderBegin(x.b, x.n)
		wantNumber(t, fmt.Sprintf("OrderBegin(%d, %d)", x.b, x.n), k, ok, x.begin, x.ok)
	}
}

func TestOrderBasesTold(t *testing.T) {
	all := []int{2, 3, 4, 5, 6, 7, 8, 9, 10, 11, 12, 13, 14, 15, 16}
	for _, x := range []struct {
		n, k int
		want []int
		ok   bool
	}{
		// The round of 1 over 2 is 0 alone in even bases, and one digit in odd ones.
		{2, 1, all, true}, {2, 2, nil, true}, {2, 1000, nil, true}, {2, 0, nil, false}, {2, 1001, nil, false},
		{3, 1, []int{3, 4, 6, 7, 9, 10, 12, 13, 15, 16}, true}, {3, 2, []int{2, 5, 8, 11, 14}, true}, {3, 3, nil, true},
		{7, 1, []int{7, 8, 14, 15}, true}, {7, 2, []int{6, 13}, true}, {7, 3, []int{2, 4, 9, 11, 16}, true}, {7, 6, []int{3, 5, 10, 12}, true},
		{8, 1, []int{2, 4, 6, 8, 9, 10, 12, 14, 16}, true}, {8, 2, []int{3, 5, 7, 11, 13, 15}, true},
		{10, 1, []int{5, 6, 10, 11, 15, 16}, true}, {10, 2, []int{4, 9, 14}, true}, {10, 4, []int{2, 3, 7, 8, 12, 13}, true},
		{1000, 1, []int{10}, true}, {1000, 20, []int{7}, true}, {1000, 1000, nil, true},
		{999, 3, []int{10}, true}, {997, 1000, nil, true}, {983, 982, []int{5, 10, 11, 13, 15}, true},
		{1, 1, nil, false}, {1001, 1, nil, false}, {1000, 0, nil, false}, {1000, 1001, nil, false}, {7, -6, nil, false},
	} {
		got, ok := impl.OrderBases(x.n, x.k)
		if ok != x.ok || !slices.Equal(got, x.want) {
			t.Errorf("OrderBases(%d, %d) = %v, %v, not %v, %v", x.n, x.k, got, ok, x.want, x.ok)
		}
	}
}

// TestP15 checks that the rounds of tops have OrderOf tops, and together each of OrderUnits once.
func TestP15(t *testing.T) {
	eachBottom(func(b, n int) {
		rounds, ok := impl.RestRounds(b, n)
		if _, okOrder := impl.OrderOf(b, n); ok != okOrder {
			t.Fatalf("RestRounds(%d, %d) returned %v, but OrderOf %v", b, n, ok, okOrder)
		}
		if !ok {
			return
		}
		seen := map[int]bool{}
		for _, tops := range rounds {
			if k := order(t, b, n); len(tops) != k {
				t.Fatalf("RestRounds(%d, %d) has %v, but OrderOf is %d", b, n, tops, k)
			}
			for _, top := range tops {
				if seen[top] || top < 1 || top >= n || divisor(top, n) != 1 {
					t.Fatalf("RestRounds(%d, %d) = %v has %d twice, or it is no top", b, n, rounds, top)
				}
				seen[top] = true
			}
		}
		if count := orderUnits(t, n); len(seen) != count {
			t.Fatalf("RestRounds(%d, %d) has %d tops, but OrderUnits is %d", b, n, len(seen), count)
		}
	})
}

// TestP16 checks that the number of rounds times OrderOf is OrderUnits.
func TestP16(t *testing.T) {
	eachBottom(func(b, n int) {
		many, length, ok := impl.RestMany(b, n)
		if ok && (length != order(t, b, n) || many*length != orderUnits(t, n)) {
			t.Fatalf("RestMany(%d, %d) = %d, %d, but OrderOf is %d and OrderUnits %d", b, n, many, length, order(t, b, n), orderUnits(t, n))
		}
		if ok != (divisor(b, n) == 1) {
			t.Fatalf("RestMany(%d, %d) returned %v", b, n, ok)
		}
	})
}

// TestP17 checks OrderOf against powers of the base, OrderUnits, OrderMost, and the round of 1 over n.
func TestP17(t *testing.T) {
	for n := 2; n <= bottomMax; n++ {
		count, most := orderUnits(t, n), orderMost(t, n)
		for b := leastBase; b <= greatestBase; b++ {
			k, ok := impl.OrderOf(b, n)
			if divisor(b, n) != 1 {
				wantNumber(t, fmt.Sprintf("OrderOf(%d, %d)", b, n), k, ok, 0, false)
				continue
			}
			if !ok || k < 1 || count%k != 0 || most%k != 0 {
				t.Fatalf("OrderOf(%d, %d) = %d, %v, but OrderUnits is %d and OrderMost %d", b, n, k, ok, count, most)
			}
			if _, m := lengths(t, b, impl.Frac{Top: 1, Bottom: n}); m != k {
				t.Fatalf("OrderOf(%d, %d) = %d, but the round of 1 over it has %d digits", b, n, k, m)
			}
			checkOrder(t, b, n, k)
		}
	}
}

// checkOrder checks that k is an order, and the least one: all others for which n divides are its multiples, so one that is less would be k over a prime, or divide that.
func checkOrder(t *testing.T, b, n, k int) {
	t.Helper()
	if !powerIsOne(b, k, n) {
		t.Fatalf("OrderOf(%d, %d) = %d, but %d does not divide this power less 1", b, n, k, n)
	}
	for _, p := range primesIn(k) {
		if powerIsOne(b, k/p, n) {
			t.Fatalf("OrderOf(%d, %d) = %d, but %d does it", b, n, k, k/p)
		}
	}
}

// TestP18 checks OrderUnits by counting, and tells primes by it.
func TestP18(t *testing.T) {
	primes := smallPrimes()
	for n := 2; n <= bottomMax; n++ {
		want := 0
		for number := 1; number <= n; number++ {
			if divisor(number, n) == 1 {
				want++
			}
		}
		got := orderUnits(t, n)
		if got != want {
			t.Fatalf("OrderUnits(%d) = %d, not %d", n, got, want)
		}
		if prime := slices.Contains(primes, n); prime != (got == n-1) {
			t.Fatalf("OrderUnits(%d) = %d, but that it is a prime is %v", n, got, prime)
		}
		if n > 2 && got%2 != 0 {
			t.Fatalf("OrderUnits(%d) = %d is odd", n, got)
		}
	}
}

// allToOne reports whether n divides, less 1, each number without a common divisor with it to the power of k.
func allToOne(n, k int) bool {
	for number := 1; number < n; number++ {
		if divisor(number, n) != 1 {
			continue
		}
		power := 1
		for range k {
			power = power * number % n
		}
		if power != 1%n {
			return false
		}
	}
	return true
}

// TestP19 checks that OrderMost divides OrderUnits, is it for each prime, and is the least one for all numbers.
func TestP19(t *testing.T) {
	primes := smallPrimes()
	for n := 2; n <= bottomMax; n++ {
		most, count := orderMost(t, n), orderUnits(t, n)
		if count%most != 0 || slices.Contains(primes, n) && most != count {
			t.Fatalf("OrderMost(%d) = %d, but OrderUnits is %d", n, most, count)
		}
		// All others that do are multiples of the least one.
		if !allToOne(n, most) {
			t.Fatalf("OrderMost(%d) = %d, but not for all numbers", n, most)
		}
		for _, p := range primesIn(most) {
			if allToOne(n, most/p) {
				t.Fatalf("OrderMost(%d) = %d, but %d does it", n, most, most/p)
			}
		}
	}
}

// TestP20 checks that exactly the primes with one round of tops are told, up to each number.
func TestP20(t *testing.T) {
	primes := smallPrimes()
	for b := leastBase; b <= greatestBase; b++ {
		want := []int{}
		for n := 2; n <= bottomMax; n++ {
			if many, _, ok := impl.RestMany(b, n); ok && many == 1 && slices.Contains(primes, n) {
				want = append(want, n)
			}
			got, ok := impl.OrderFull(b, n)
			if !ok || !slices.Equal(got, want) {
				t.Fatalf("OrderFull(%d, %d) = %v, %v, not %v", b, n, got, ok, want)
			}
		}
		for _, p := range want {
			if k := order(t, b, p); k != p-1 {
				t.Fatalf("OrderFull of the base %d has %d, but OrderOf is %d", b, p, k)
			}
		}
	}
}

// TestP21 checks OrderOnes by rests of rows of ones, and against OrderOf.
func TestP21(t *testing.T) {
	apart, common := 0, 0
	eachBottom(func(b, n int) {
		got, ok := impl.OrderOnes(b, n)
		if divisor(b, n) != 1 {
			wantNumber(t, fmt.Sprintf("OrderOnes(%d, %d)", b, n), got, ok, 0, false)
			return
		}
		want, row := 1, 1
		for row != 0 {
			row = (row*b + 1) % n
			want++
		}
		if !ok || got != want {
			t.Fatalf("OrderOnes(%d, %d) = %d, %v, not %d", b, n, got, ok, want)
		}
		k := order(t, b, n)
		if got%k != 0 {
			t.Fatalf("OrderOnes(%d, %d) = %d, but OrderOf is %d", b, n, got, k)
		}
		if divisor(n, b-1) != 1 {
			common++
			return
		}
		apart++
		if got != k {
			t.Fatalf("OrderOnes(%d, %d) = %d is not OrderOf, %d", b, n, got, k)
		}
	})
	if apart == 0 || common == 0 {
		t.Fatalf("%d numbers have no common divisor with the base less 1, and %d have one", apart, common)
	}
}

// TestP22 checks both numbers of OrderSplit by their prime divisors, and against FracLengths.
func TestP22(t *testing.T) {
	for n := 2; n <= bottomMax; n++ {
		primes := primesIn(n)
		for b := leastBase; b <= greatestBase; b++ {
			first, second := orderSplit(t, b, n)
			if first*second != n {
				t.Fatalf("OrderSplit(%d, %d) = %d, %d, which do not multiply to it", b, n, first, second)
			}
			for _, p := range primes {
				if inBase := b%p == 0; inBase && second%p == 0 || !inBase && first%p == 0 {
					t.Fatalf("OrderSplit(%d, %d) = %d, %d has %d in the wrong one", b, n, first, second, p)
				}
			}
			wantRound := 1
			if second > 1 {
				wantRound = order(t, b, second)
			}
			wantBegin, ok := impl.OrderBegin(b, n)
			if k, m := lengths(t, b, impl.Frac{Top: 1, Bottom: n}); !ok || k != wantBegin || m != wantRound {
				t.Fatalf("FracLengths of 1 over %d in base %d is %d, %d, but OrderBegin is %d, %v and the order by %d is %d", n, b, k, m, wantBegin, ok, second, wantRound)
			}
		}
	}
}

// TestP23 checks OrderBegin against powers of 2 and of the base, and OrderOf.
func TestP23(t *testing.T) {
	eachBottom(func(b, n int) {
		k, ok := impl.OrderBegin(b, n)
		if !ok || k < 0 || k > 9 || 1<<k > n {
			t.Fatalf("OrderBegin(%d, %d) = %d, %v", b, n, k, ok)
		}
		if _, okOrder := impl.OrderOf(b, n); okOrder != (k == 0) {
			t.Fatalf("OrderBegin(%d, %d) = %d, but OrderOf returned %v", b, n, k, okOrder)
		}
		first, _ := orderSplit(t, b, n)
		power := 1
		for range k {
			if power%first == 0 {
				t.Fatalf("OrderBegin(%d, %d) = %d, but %d divides %d", b, n, k, first, power)
			}
			power *= b
		}
		if power%first != 0 {
			t.Fatalf("OrderBegin(%d, %d) = %d, but %d does not divide %d", b, n, k, first, power)
		}
	})
}

// checkBases compares OrderBases with the lengths of the rounds of 1 over n, by the base.
func checkBases(t *testing.T, n, k int, byBase []int) {
	t.Helper()
	var want []int
	for b := leastBase; b <= greatestBase; b++ {
		if byBase[b] == k {
			want = append(want, b)
		}
	}
	got, ok := impl.OrderBases(n, k)
	if !ok || !slices.Equal(got, want) {
		t.Fatalf("OrderBases(%d, %d) = %v, %v, not %v", n, k, got, ok, want)
	}
}

// TestP24 checks OrderBases for all numbers and the lengths that occur, and those beside them; and for some numbers for all lengths.
func TestP24(t *testing.T) {
	allLengths := []int{2, 3, 4, 5, 8, 10, 12, 510, 512, 720, 983, 997, 999, 1000}
	for n := 2; n <= bottomMax; n++ {
		byBase := make([]int, greatestBase+1)
		ks := map[int]bool{1: true, 2: true, bottomMax: true}
		for b := leastBase; b <= greatestBase; b++ {
			_, m := lengths(t, b, impl.Frac{Top: 1, Bottom: n})
			byBase[b] = m
			ks[m], ks[m+1] = true, true
			if m > 1 {
				ks[m-1] = true
			}
		}
		if slices.Contains(allLengths, n) {
			for k := 1; k <= bottomMax; k++ {
				ks[k] = true
			}
		}
		for k := range ks {
			checkBases(t, n, k, byBase)
		}
	}
}
