package tests

import (
	"fmt"
	"maps"
	"slices"
	"testing"

	"loop.example/fractionrounds/impl"
)

// TestCountsTold tells a round by its digits where it is not long.
func TestCountsTold(t *testing.T) {
	for _, x := range []struct {
		b                      int
		f                      impl.Frac
		round                  string
		counts                 []int
		sum, most, runs, pairs int
	}{
		// Rounds that are 0 alone, of 0 over 1 and behind a beginning.
		{2, zeroFrac, "0", []int{1, 0}, 0, 1, 1, 1},
		{10, zeroFrac, "0", []int{1, 0, 0, 0, 0, 0, 0, 0, 0, 0}, 0, 1, 1, 1},
		{16, zeroFrac, "0", []int{1, 0, 0, 0, 0, 0, 0, 0, 0, 0, 0, 0, 0, 0, 0, 0}, 0, 1, 1, 1},
		{10, impl.Frac{Top: 1, Bottom: 2}, "0", []int{1, 0, 0, 0, 0, 0, 0, 0, 0, 0}, 0, 1, 1, 1},
		{10, impl.Frac{Top: 3, Bottom: 8}, "0", []int{1, 0, 0, 0, 0, 0, 0, 0, 0, 0}, 0, 1, 1, 1},
		{2, impl.Frac{Top: 5, Bottom: 8}, "0", []int{1, 0}, 0, 1, 1, 1},
		{16, impl.Frac{Top: 255, Bottom: 256}, "0", []int{1, 0, 0, 0, 0, 0, 0, 0, 0, 0, 0, 0, 0, 0, 0, 0}, 0, 1, 1, 1},
		{10, impl.Frac{Top: 999, Bottom: 1000}, "0", []int{1, 0, 0, 0, 0, 0, 0, 0, 0, 0}, 0, 1, 1, 1},
		// Rounds of another digit alone.
		{3, impl.Frac{Top: 1, Bottom: 2}, "1", []int{0, 1, 0}, 1, 1, 1, 1},
		{4, impl.Frac{Top: 2, Bottom: 3}, "2", []int{0, 0, 1, 0}, 2, 1, 1, 1},
		{10, impl.Frac{Top: 1, Bottom: 3}, "3", []int{0, 0, 0, 1, 0, 0, 0, 0, 0, 0}, 3, 1, 1, 1},
		{10, impl.Frac{Top: 8, Bottom: 9}, "8", []int{0, 0, 0, 0, 0, 0, 0, 0, 1, 0}, 8, 1, 1, 1},
		{10, impl.Frac{Top: 1, Bottom: 12}, "3", []int{0, 0, 0, 1, 0, 0, 0, 0, 0, 0}, 3, 1, 1, 1},
		{16, impl.Frac{Top: 1, Bottom: 15}, "1", []int{0, 1, 0, 0, 0, 0, 0, 0, 0, 0, 0, 0, 0, 0, 0, 0}, 1, 1, 1, 1},
		{16, impl.Frac{Top: 4, Bottom: 5}, "c", []int{0, 0, 0, 0, 0, 0, 0, 0, 0, 0, 0, 0, 1, 0, 0, 0}, 12, 1, 1, 1},
		{16, impl.Frac{Top: 14, Bottom: 15}, "e", []int{0, 0, 0, 0, 0, 0, 0, 0, 0, 0, 0, 0, 0, 0, 1, 0}, 14, 1, 1, 1},
		// Rounds that have each digit equally often.
		{2, impl.Frac{Top: 1, Bottom: 3}, "01", []int{1, 1}, 1, 0, 1, 2},
		{2, impl.Frac{Top: 1, Bottom: 5}, "0011", []int{2, 2}, 2, 0, 2, 4},
		{2, impl.Frac{Top: 7, Bottom: 9}, "110001", []int{3, 3}, 3, 0, 3, 4},
		{2, impl.Frac{Top: 1, Bottom: 11}, "0001011101", []int{5, 5}, 5, 0, 3, 4},
		{3, impl.Frac{Top: 1, Bottom: 7}, "010212", []int{2, 2, 2}, 6, 0, 1, 6},
		{6, impl.Frac{Top: 1, Bottom: 13}, "024340531215", []int{2, 2, 2, 2, 2, 2}, 30, 0, 1, 12},
		{10, impl.Frac{Top: 1, Bottom: 61}, "", []int{6, 6, 6, 6, 6, 6, 6, 6, 6, 6}, 270, 0, 2, 60},
		{2, impl.Frac{Top: 1, Bottom: 993}, "000000000100000111111111011111", []int{15, 15}, 15, 0, 9, 4},
		{2, impl.Frac{Top: 1, Bottom: 1000}, "", []int{50, 50}, 50, 0, 6, 4},
		// Rounds that lack digits, with halves that add up, and their other ones.
		{10, impl.Frac{Top: 1, Bottom: 7}, "142857", []int{0, 1, 1, 0, 1, 1, 0, 1, 1, 0}, 27, 1, 1, 6},
		{10, impl.Frac{Top: 6, Bottom: 7}, "857142", []int{0, 1, 1, 0, 1, 1, 0, 1, 1, 0}, 27, 1, 1, 6},
		{10, impl.Frac{Top: 1, Bottom: 14}, "714285", []int{0, 1, 1, 0, 1, 1, 0, 1, 1, 0}, 27, 1, 1, 6},
		{10, impl.Frac{Top: 1, Bottom: 11}, "09", []int{1, 0, 0, 0, 0, 0, 0, 0, 0, 1}, 9, 1, 1, 2},
		{10, impl.Frac{Top: 1, Bottom: 13}, "076923", []int{1, 0, 1, 1, 0, 0, 1, 1, 0, 1}, 27, 1, 1, 6},
		{10, impl.Frac{Top: 1, Bottom: 101}, "0099", []int{2, 0, 0, 0, 0, 0, 0, 0, 0, 2}, 18, 2, 2, 4},
		{10, impl.Frac{Top: 1, Bottom: 73}, "01369863", []int{1, 1, 0, 2, 0, 0, 2, 0, 1, 1}, 36, 2, 1, 8},
		{7, impl.Frac{Top: 1, Bottom: 5}, "1254", []int{0, 1, 1, 0, 1, 1, 0}, 12, 1, 1, 4},
		{15, impl.Frac{Top: 1, Bottom: 13}, "124936dca5b8", []int{0, 1, 1, 1, 1, 1, 1, 0, 1, 1, 1, 1, 1, 1, 0}, 84, 1, 1, 12},
		{16, impl.Frac{Top: 1, Bottom: 17}, "0f", []int{1, 0, 0, 0, 0, 0, 0, 0, 0, 0, 0, 0, 0, 0, 0, 1}, 15, 1, 1, 2},
		{16, impl.Frac{Top: 16, Bottom: 17}, "f0", []int{1, 0, 0, 0, 0, 0, 0, 0, 0, 0, 0, 0, 0, 0, 0, 1}, 15, 1, 1, 2},
		{16, impl.Frac{Top: 1, Bottom: 257}, "00ff", []int{2, 0, 0, 0, 0, 0, 0, 0, 0, 0, 0, 0, 0, 0, 0, 2}, 30, 2, 2, 4},
		{16, impl.Frac{Top: 1, Bottom: 241}, "010fef", []int{2, 1, 0, 0, 0, 0, 0, 0, 0, 0, 0, 0, 0, 0, 1, 2}, 45, 2, 1, 6},
		// Rounds of odd length, or with halves that do not add up.
		{2, impl.Frac{Top: 1, Bottom: 7}, "001", []int{2, 1}, 1, 1, 2, 3},
		{2, impl.Frac{Top: 3, Bottom: 31}, "00011", []int{3, 2}, 2, 1, 3, 4},
		{2, impl.Frac{Top: 1, Bottom: 23}, "00001011001", []int{7, 4}, 4, 3, 4, 4},
		{2, impl.Frac{Top: 1, Bottom: 31}, "00001", []int{4, 1}, 1, 3, 4, 3},
		{2, impl.Frac{Top: 15, Bottom: 31}, "01111", []int{1, 4}, 4, 3, 4, 3},
		{2, impl.Frac{Top: 510, Bottom: 511}, "111111110", []int{1, 8}, 8, 7, 8, 3},
		{3, impl.Frac{Top: 1, Bottom: 13}, "002", []int{2, 0, 1}, 2, 2, 2, 3},
		{3, impl.Frac{Top: 1, Bottom: 8}, "01", []int{1, 1, 0}, 1, 1, 1, 2},
		{10, impl.Frac{Top: 1, Bottom: 37}, "027", []int{1, 0, 1, 0, 0, 0, 0, 1, 0, 0}, 9, 1, 1, 3},
		{10, impl.Frac{Top: 1, Bottom: 41}, "02439", []int{1, 0, 1, 1, 1, 0, 0, 0, 0, 1}, 18, 1, 1, 5},
		{10, impl.Frac{Top: 1, Bottom: 81}, "012345679", []int{1, 1, 1, 1, 1, 1, 1, 1, 0, 1}, 37, 1, 1, 9},
		{10, impl.Frac{Top: 1, Bottom: 99}, "01", []int{1, 1, 0, 0, 0, 0, 0, 0, 0, 0}, 1, 1, 1, 2},
		{10, impl.Frac{Top: 998, Bottom: 999}, "998", []int{0, 0, 0, 0, 0, 0, 0, 0, 1, 2}, 26, 2, 2, 3},
		{16, impl.Frac{Top: 1, Bottom: 7}, "249", []int{0, 0, 1, 0, 1, 0, 0, 0, 0, 1, 0, 0, 0, 0, 0, 0}, 15, 1, 1, 3},
		{16, impl.Frac{Top: 1, Bottom: 19}, "0d79435e5", []int{1, 0, 0, 1, 1, 2, 0, 1, 0, 1, 0, 0, 0, 1, 1, 0}, 60, 2, 1, 9},
		{16, impl.Frac{Top: 1, Bottom: 255}, "01", []int{1, 1, 0, 0, 0, 0, 0, 0, 0, 0, 0, 0, 0, 0, 0, 0}, 1, 1, 1, 2},
		// Pieces that go over the end, on their own and longer than all others.
		{2, impl.Frac{Top: 16, Bottom: 31}, "10000", []int{4, 1}, 1, 3, 4, 3},
		{2, impl.Frac{Top: 7, Bottom: 9}, "110001", []int{3, 3}, 3, 0, 3, 4},
		{2, impl.Frac{Top: 16, Bottom: 511}, "000010000", []int{8, 1}, 1, 7, 8, 3},
		{2, impl.Frac{Top: 495, Bottom: 511}, "111101111", []int{1, 8}, 8, 7, 8, 3},
		{3, impl.Frac{Top: 3, Bottom: 40}, "0020", []int{3, 0, 1}, 2, 3, 3, 3},
		{3, impl.Frac{Top: 27, Bottom: 82}, "02222000", []int{4, 0, 4}, 8, 4, 4, 4},
		{10, impl.Frac{Top: 10, Bottom: 111}, "090", []int{2, 0, 0, 0, 0, 0, 0, 0, 0, 1}, 9, 2, 2, 3},
		{10, impl.Frac{Top: 110, Bottom: 999}, "110", []int{1, 2, 0, 0, 0, 0, 0, 0, 0, 0}, 2, 2, 2, 3},
		{10, impl.Frac{Top: 101, Bottom: 999}, "101", []int{1, 2, 0, 0, 0, 0, 0, 0, 0, 0}, 2, 2, 2, 3},
		{10, impl.Frac{Top: 31, Bottom: 259}, "119691", []int{0, 3, 0, 0, 0, 0, 1, 0, 0, 2}, 27, 3, 3, 5},
		{10, impl.Frac{Top: 33, Bottom: 287}, "114982578397212543554006968641", []int{2, 4, 3, 2, 4, 4, 3, 2, 3, 3}, 135, 2, 3, 27},
		{16, impl.Frac{Top: 16, Bottom: 273}, "0f0", []int{2, 0, 0, 0, 0, 0, 0, 0, 0, 0, 0, 0, 0, 0, 0, 1}, 15, 2, 2, 3},
		{16, impl.Frac{Top: 46, Bottom: 337}, "22f191178c88bc6445e32", []int{0, 3, 3, 1, 2, 1, 1, 1, 3, 1, 0, 1, 2, 0, 1, 1}, 135, 3, 3, 20},
		// Pairs of two same digits, and pairs that stand more than once.
		{3, impl.Frac{Top: 1, Bottom: 28}, "000222", []int{3, 0, 3}, 6, 3, 3, 4},
		{3, impl.Frac{Top: 1, Bottom: 32}, "00021121", []int{3, 3, 2}, 7, 1, 3, 6},
		{3, impl.Frac{Top: 1, Bottom: 41}, "00012221", []int{3, 2, 3}, 8, 1, 3, 6},
		{10, impl.Frac{Top: 16, Bottom: 143}, "111888", []int{0, 3, 0, 0, 0, 0, 0, 0, 3, 0}, 27, 3, 3, 4},
		{10, impl.Frac{Top: 18, Bottom: 137}, "13138686", []int{0, 2, 0, 2, 0, 0, 2, 0, 2, 0}, 36, 2, 1, 6},
		{10, impl.Frac{Top: 16, Bottom: 777}, "020592", []int{2, 0, 2, 0, 0, 1, 0, 0, 0, 1}, 18, 2, 1, 5},
		{10, impl.Frac{Top: 71, Bottom: 407}, "174447", []int{0, 1, 0, 0, 3, 0, 0, 2, 0, 0}, 27, 3, 3, 5},
		{10, impl.Frac{Top: 41, Bottom: 803}, "05105853", []int{2, 1, 0, 1, 0, 3, 0, 0, 1, 0}, 27, 3, 1, 7},
		{10, impl.Frac{Top: 28, Bottom: 813}, "03444", []int{1, 0, 0, 1, 3, 0, 0, 0, 0, 0}, 15, 3, 3, 4},
		{10, impl.Frac{Top: 1, Bottom: 891}, "001122334455667789", []int{2, 2, 2, 2, 2, 2, 2, 2, 1, 1}, 73, 1, 2, 18},
		{16, impl.Frac{Top: 3, Bottom: 763}, "0101ad767", []int{2, 2, 0, 0, 0, 0, 1, 2, 0, 0, 1, 0, 0, 1, 0, 0}, 45, 2, 1, 8},
		{16, impl.Frac{Top: 6, Bottom: 481}, "03317f33a", []int{1, 1, 0, 4, 0, 0, 0, 1, 0, 0, 1, 0, 0, 0, 0, 1}, 45, 4, 2, 8},
		{16, impl.Frac{Top: 31, Bottom: 981}, "0816f6ddd", []int{1, 1, 0, 0, 0, 0, 2, 0, 1, 0, 0, 0, 0, 3, 0, 1}, 75, 3, 3, 8},
		// Long rounds.
		{2, impl.Frac{Top: 1, Bottom: 983}, "", []int{259, 232}, 232, 27, 9, 4},
		{3, impl.Frac{Top: 1, Bottom: 983}, "", []int{177, 164, 150}, 464, 27, 6, 9},
		{10, impl.Frac{Top: 1, Bottom: 17}, "0588235294117647", []int{1, 2, 2, 1, 2, 2, 1, 2, 2, 1}, 72, 1, 2, 16},
		{10, impl.Frac{Top: 1, Bottom: 983}, "", []int{98, 98, 98, 99, 98, 98, 99, 98, 98, 98}, 4419, 1, 3, 100},
		{10, impl.Frac{Top: 982, Bottom: 983}, "", []int{98, 98, 98, 99, 98, 98, 99, 98, 98, 98}, 4419, 1, 3, 100},
	} {
		if text := textOf(round(t, x.b, x.f)); x.round != "" && text != x.round {
			t.Errorf("the round of %v in base %d is %s, and not %s", x.f, x.b, text, x.round)
		}
		name := fmt.Sprintf("(%d, %v)", x.b, x.f)
		counts, ok := impl.CountDigits(x.b, x.f)
		wantList(t, "CountDigits"+name, counts, ok, x.counts)
		got, ok := impl.CountSum(x.b, x.f)
		wantNumber(t, "CountSum"+name, got, ok, x.sum, true)
		got, ok = impl.CountMost(x.b, x.f)
		wantNumber(t, "CountMost"+name, got, ok, x.most, true)
		got, ok = impl.CountRuns(x.b, x.f)
		wantNumber(t, "CountRuns"+name, got, ok, x.runs, true)
		got, ok = impl.CountPairs(x.b, x.f)
		wantNumber(t, "CountPairs"+name, got, ok, x.pairs, true)
	}
}

// TestCountFullTold asks for all digits of the base, and for those just outside; what is no prime that is full has no counts.
func TestCountFullTold(t *testing.T) {
	for _, x := range []struct {
		b, p   int
		counts []int
	}{
		// The primes 2 and 3.
		{3, 2, []int{0, 1, 0}},
		{5, 2, []int{0, 0, 1, 0, 0}},
		{9, 2, []int{0, 0, 0, 0, 1, 0, 0, 0, 0}},
		{15, 2, []int{0, 0, 0, 0, 0, 0, 0, 1, 0, 0, 0, 0, 0, 0, 0}},
		{2, 3, []int{1, 1}},
		{5, 3, []int{0, 1, 0, 1, 0}},
		{8, 3, []int{0, 0, 1, 0, 0, 1, 0, 0}},
		{11, 3, []int{0, 0, 0, 1, 0, 0, 0, 1, 0, 0, 0}},
		{14, 3, []int{0, 0, 0, 0, 1, 0, 0, 0, 0, 1, 0, 0, 0, 0}},
		// Just below and just above the base, and some more.
		{7, 5, []int{0, 1, 1, 0, 1, 1, 0}},
		{13, 11, []int{0, 1, 1, 1, 1, 1, 0, 1, 1, 1, 1, 1, 0}},
		{15, 13, []int{0, 1, 1, 1, 1, 1, 1, 0, 1, 1, 1, 1, 1, 1, 0}},
		{3, 5, []int{1, 2, 1}},
		{5, 7, []int{1, 1, 2, 1, 1}},
		{6, 11, []int{1, 2, 2, 2, 2, 1}},
		{10, 7, []int{0, 1, 1, 0, 1, 1, 0, 1, 1, 0}},
		{10, 17, []int{1, 2, 2, 1, 2, 2, 1, 2, 2, 1}},
		{11, 13, []int{1, 1, 1, 1, 1, 2, 1, 1, 1, 1, 1}},
		{12, 7, []int{0, 1, 0, 1, 0, 1, 1, 0, 1, 0, 1, 0}},
		{14, 17, []int{1, 1, 1, 1, 2, 1, 1, 1, 1, 2, 1, 1, 1, 1}},
		{15, 19, []int{1, 1, 1, 2, 1, 1, 1, 2, 1, 1, 1, 2, 1, 1, 1}},
		{6, 13, []int{2, 2, 2, 2, 2, 2}},
		{10, 61, []int{6, 6, 6, 6, 6, 6, 6, 6, 6, 6}},
		// The greatest ones up to BottomMax.
		{2, 947, []int{473, 473}},
		{3, 977, []int{325, 326, 325}},
		{6, 991, []int{165, 165, 165, 165, 165, 165}},
		{7, 997, []int{142, 142, 143, 142, 143, 142, 142}},
		{10, 983, []int{98, 98, 98, 99, 98, 98, 99, 98, 98, 98}},
		{13, 983, []int{75, 76, 75, 76, 76, 75, 76, 75, 76, 76, 75, 76, 75}},
		{15, 983, []int{65, 66, 65, 66, 65, 66, 65, 66, 65, 66, 65, 66, 65, 66, 65}},
		// Primes that are not full.
		{10, 3, nil},
		{10, 11, nil},
		{10, 13, nil},
		{10, 31, nil},
		{10, 37, nil},
		{2, 7, nil},
		{2, 17, nil},
		{2, 997, nil},
		{3, 11, nil},
		{3, 13, nil},
		{16, 17, nil},
		{16, 3, nil},
		{16, 7, nil},
		{4, 3, nil},
		{9, 5, nil},
		{13, 3, nil},
		{12, 11, nil},
		{12, 13, nil},
		{15, 17, nil},
		{10, 991, nil},
		{10, 997, nil},
		// Primes that divide the base.
		{2, 2, nil},
		{10, 2, nil},
		{16, 2, nil},
		{10, 5, nil},
		{15, 3, nil},
		{7, 7, nil},
		{13, 13, nil},
		// No primes.
		{10, 9, nil},
		{10, 49, nil},
		{10, 21, nil},
		{2, 9, nil},
		{2, 25, nil},
		{3, 4, nil},
		{3, 25, nil},
		{5, 9, nil},
		{16, 4, nil},
		{10, 289, nil},
		{10, 1000, nil},
		{7, 1000, nil},
		{2, 961, nil},
	} {
		for digit := -1; digit <= x.b; digit++ {
			want, wantOK := 0, x.counts != nil && digit >= 0 && digit < x.b
			if wantOK {
				want = x.counts[digit]
			}
			got, ok := impl.CountFull(x.b, x.p, digit)
			wantNumber(t, fmt.Sprintf("CountFull(%d, %d, %d)", x.b, x.p, digit), got, ok, want, wantOK)
		}
	}
}

// countsOf returns how often a list has each digit of a base.
func countsOf(b int, digits []int) []int {
	counts := make([]int, b)
	for _, digit := range digits {
		counts[digit]++
	}
	return counts
}

// pieceFrom returns the length of the piece of a round with one digit alone that begins at a place, at most that of the round.
func pieceFrom(digits []int, place int) int {
	length := 1
	for length < len(digits) && digits[(place+length)%len(digits)] == digits[place] {
		length++
	}
	return length
}

// pairsOf returns the pairs that stand beside each other in a round, and how often.
func pairsOf(digits []int) map[[2]int]int {
	pairs := map[[2]int]int{}
	last := digits[len(digits)-1]
	for _, digit := range digits {
		pairs[[2]int{last, digit}]++
		last = digit
	}
	return pairs
}

// countDigits and the others here are for arguments for which the functions must succeed.
func countDigits(t *testing.T, b int, f impl.Frac) []int {
	t.Helper()
	counts, ok := impl.CountDigits(b, f)
	if !ok || len(counts) != b {
		t.Fatalf("CountDigits(%d, %v) = %v, %v", b, f, counts, ok)
	}
	return counts
}

func countSum(t *testing.T, b int, f impl.Frac) int {
	t.Helper()
	sum, ok := impl.CountSum(b, f)
	if !ok {
		t.Fatalf("CountSum(%d, %v) fails", b, f)
	}
	return sum
}

// countNumbers returns the results of CountSum, CountMost, CountRuns and CountPairs.
func countNumbers(t *testing.T, b int, f impl.Frac) [4]int {
	t.Helper()
	most, okMost := impl.CountMost(b, f)
	runs, okRuns := impl.CountRuns(b, f)
	pairs, okPairs := impl.CountPairs(b, f)
	if !okMost || !okRuns || !okPairs {
		t.Fatalf("CountMost, CountRuns and CountPairs of %v in base %d return %v, %v and %v", f, b, okMost, okRuns, okPairs)
	}
	return [4]int{countSum(t, b, f), most, runs, pairs}
}

// TestP47 compares CountDigits with the round of long division, and checks that its counts lead to the length and to CountSum.
func TestP47(t *testing.T) {
	lacking, equal := 0, 0
	eachSome(func(b int, f impl.Frac) {
		_, digits := longDivision(b, f)
		counts := countDigits(t, b, f)
		if want := countsOf(b, digits); !slices.Equal(counts, want) {
			t.Fatalf("CountDigits(%d, %v) = %v, not %v", b, f, counts, want)
		}
		sum := 0
		for digit, count := range counts {
			sum += digit * count
		}
		if _, length := lengths(t, b, f); sumOf(counts) != length || sum != countSum(t, b, f) {
			t.Fatalf("CountDigits(%d, %v) = %v, but the length is %d, and CountSum %d", b, f, counts, length, countSum(t, b, f))
		}
		if slices.Contains(counts, 0) {
			lacking++
		} else if slices.Min(counts) == slices.Max(counts) {
			equal++
		}
	})
	if lacking < 1000 || equal < 1000 {
		t.Fatalf("%d rounds lack digits, and %d have each one equally often", lacking, equal)
	}
}

// TestP48 compares CountSum with the digits of long division, and with the rests.
func TestP48(t *testing.T) {
	begun := 0
	eachSome(func(b int, f impl.Frac) {
		first, digits := longDivision(b, f)
		sum := countSum(t, b, f)
		if want := sumOf(digits); sum != want {
			t.Fatalf("CountSum(%d, %v) = %d, not %d", b, f, sum, want)
		}
		rests, ok := impl.RestRound(b, f)
		if !ok || sum*f.Bottom != (b-1)*sumOf(rests) {
			t.Fatalf("CountSum(%d, %v) = %d, but the rests are %v, %v", b, f, sum, rests, ok)
		}
		if len(first) > 0 && sum > 0 {
			begun++
		}
	})
	if begun < 1000 {
		t.Fatalf("%d rounds that are not 0 stand behind a beginning", begun)
	}
}

// fullIn reports whether a number is a prime that is full in a base, by its multiples and by all rests.
func fullIn(b, p int) bool {
	if !slices.Equal(primesIn(p), []int{p}) || b%p == 0 {
		return false
	}
	rests := restsOf(b, impl.Frac{Top: 1, Bottom: p}, p-1)
	slices.Sort(rests)
	return len(slices.Compact(rests)) == p-1
}

// checkFull compares CountFull for all digits with CountDigits and with the numbers themselves.
func checkFull(t *testing.T, b, p int) {
	t.Helper()
	counts := countDigits(t, b, impl.Frac{Top: 1, Bottom: p})
	want := make([]int, b)
	for r := 1; r < p; r++ {
		want[r*b/p]++
	}
	for digit := range b {
		got, ok := impl.CountFull(b, p, digit)
		if !ok || got != want[digit] || got != counts[digit] {
			t.Fatalf("CountFull(%d, %d, %d) = %d, %v, not %d, and CountDigits is %v", b, p, digit, got, ok, want[digit], counts)
		}
		if least := (p - 1) / b; got != least && got != least+1 {
			t.Fatalf("CountFull(%d, %d, %d) = %d, but for most digits it is %d", b, p, digit, got, least)
		}
	}
}

// TestP49 checks CountFull for all bases, all numbers and all digits.
func TestP49(t *testing.T) {
	found := map[int]int{}
	eachBottom(func(b, p int) {
		if fullIn(b, p) {
			found[b]++
			checkFull(t, b, p)
			return
		}
		for digit := range b {
			got, ok := impl.CountFull(b, p, digit)
			wantNumber(t, fmt.Sprintf("CountFull(%d, %d, %d)", b, p, digit), got, ok, 0, false)
		}
	})
	// In base 9 the prime 2 alone is full, and squares of even numbers have no full prime.
	if found[2] != 67 || found[4] != 0 || found[9] != 1 || found[10] != 60 || found[16] != 0 {
		t.Fatalf("the numbers of full primes are %v", found)
	}
}

// TestP50 checks that counts are the same backwards where halves add up.
func TestP50(t *testing.T) {
	held, other := 0, 0
	eachSome(func(b int, f impl.Frac) {
		counts := countDigits(t, b, f)
		backwards := slices.Clone(counts)
		slices.Reverse(backwards)
		switch same := slices.Equal(counts, backwards); {
		case impl.PartHalves(b, f):
			held++
			if !same {
				t.Fatalf("PartHalves(%d, %v) holds, but CountDigits is %v", b, f, counts)
			}
		case !same:
			other++
		}
	})
	if held < 1000 || other < 1000 {
		t.Fatalf("%d rounds have halves that add up, and %d counts are others backwards", held, other)
	}
}

// TestP51 compares CountMost with all differences of two counts.
func TestP51(t *testing.T) {
	ends, equal, all := 0, 0, 0
	eachSome(func(b int, f impl.Frac) {
		_, digits := longDivision(b, f)
		want := 0
		for _, one := range countsOf(b, digits) {
			for _, two := range countsOf(b, digits) {
				want = max(want, one-two)
			}
		}
		got := countNumbers(t, b, f)[1]
		if got != want || got > len(digits) {
			t.Fatalf("CountMost(%d, %v) = %d, not %d, for a round of %d digits", b, f, got, want, len(digits))
		}
		if impl.FracEnds(b, f) {
			ends++
			if got != 1 {
				t.Fatalf("CountMost(%d, %v) = %d, but the fraction ends", b, f, got)
			}
		}
		if got == 0 {
			equal++
		}
		if got == len(digits) {
			all++
		}
	})
	if ends < 100 || equal < 1000 || all <= ends {
		t.Fatalf("%d rounds are 0 alone, of %d all counts are the same, and %d have one digit alone", ends, equal, all)
	}
}

// TestP52 compares CountRuns with the pieces from all places on.
func TestP52(t *testing.T) {
	alone, over := 0, 0
	eachSome(func(b int, f impl.Frac) {
		_, digits := longDivision(b, f)
		want, inside := 0, 0
		for place := range digits {
			length := pieceFrom(digits, place)
			want = max(want, length)
			inside = max(inside, min(length, len(digits)-place))
		}
		got := countNumbers(t, b, f)[2]
		if got != want || got < 1 || got == len(digits) && got > 1 {
			t.Fatalf("CountRuns(%d, %v) = %d, not %d, for a round of %d digits", b, f, got, want, len(digits))
		}
		if len(digits) == 1 {
			alone++
		}
		if got > inside {
			over++
		}
	})
	if alone < 100 || over < 100 {
		t.Fatalf("%d rounds have one digit, and of %d the longest piece goes over the end", alone, over)
	}
}

// TestP53 compares CountPairs with the pairs themselves.
func TestP53(t *testing.T) {
	again, same, round := 0, 0, 0
	eachSome(func(b int, f impl.Frac) {
		_, digits := longDivision(b, f)
		pairs := pairsOf(digits)
		got := countNumbers(t, b, f)[3]
		if got != len(pairs) || got > len(digits) {
			t.Fatalf("CountPairs(%d, %v) = %d, not %d, for a round of %d digits", b, f, got, len(pairs), len(digits))
		}
		told := slices.DeleteFunc(countDigits(t, b, f), func(count int) bool { return count == 0 })
		if got < len(told) {
			t.Fatalf("CountPairs(%d, %v) = %d, but the round has %d digits", b, f, got, len(told))
		}
		if got < len(digits) {
			again++
		}
		if slices.ContainsFunc(slices.Collect(maps.Keys(pairs)), func(pair [2]int) bool { return pair[0] == pair[1] }) && got > 1 {
			same++
		}
		if pairs[[2]int{digits[len(digits)-1], digits[0]}] == 1 && got > 1 {
			round++
		}
	})
	if again < 1000 || same < 1000 || round < 1000 {
		t.Fatalf("%d rounds have a pair more than once, %d one of two same digits, and of %d the last digit stands with the first one nowhere else", again, same, round)
	}
}

// TestCountsTurned checks that all is the same wherever a round begins.
func TestCountsTurned(t *testing.T) {
	for b := leastBase; b <= greatestBase; b++ {
		for _, f := range someFracs() {
			length, _ := lengths(t, b, f)
			if _, digits := longDivision(b, f); len(digits) > 40 || f.Bottom > 300 {
				continue
			}
			counts, numbers := countDigits(t, b, f), countNumbers(t, b, f)
			for k := length; k < length+40; k += 3 {
				g := shift(t, b, f, k)
				if other := countDigits(t, b, g); !slices.Equal(other, counts) || countNumbers(t, b, g) != numbers {
					t.Fatalf("the counts of %v in base %d are %v, %v, but of %v they are %v, %v", f, b, counts, numbers, g, other, countNumbers(t, b, g))
				}
			}
		}
	}
}

// TestCountsOther checks that a fraction and what it lacks to 1 have the same counts, one of them backwards. Rounds that are 0 alone belong to no greatest digits.
func TestCountsOther(t *testing.T) {
	eachSome(func(b int, f impl.Frac) {
		if impl.FracEnds(b, f) {
			return
		}
		other := otherOf(f)
		counts, numbers := countDigits(t, b, other), countNumbers(t, b, other)
		slices.Reverse(counts)
		numbers[0] = (b-1)*sumOf(counts) - numbers[0]
		if got := countDigits(t, b, f); !slices.Equal(got, counts) || countNumbers(t, b, f) != numbers {
			t.Fatalf("the counts of %v in base %d are %v, %v, but told by those of %v they are %v, %v", f, b, got, countNumbers(t, b, f), other, counts, numbers)
		}
	})
}
