package impl

import "iter"

// BottomMax is the greatest bottom of a fraction.
const BottomMax = 1000

const (
	baseLeast  = 2
	baseMost   = 16
	digitsMost = 200     // digits of FracDigits
	listMost   = 5       // digits of FracOf, of beginning and round together
	placeMost  = 1000000 // the last place of FracDigit
)

// Frac has the value Top over Bottom.
type Frac struct {
	Top    int
	Bottom int
}

// FracIn reports whether a pair is a fraction.
func FracIn(f Frac) bool {
	if f.Bottom < 1 || f.Bottom > BottomMax || f.Top < 0 || f.Top >= f.Bottom {
		return false
	}
	return commonDivisor(f.Top, f.Bottom) == 1
}

// FracDigits returns the first k digits of a fraction, k from 0 to 200, and true.
func FracDigits(b int, f Frac, k int) ([]int, bool) {
	if !fracTold(b, f) || k < 0 || k > digitsMost {
		return nil, false
	}
	digits := make([]int, 0, k)
	for _, digit := range f.walk(b) {
		if len(digits) == k {
			break
		}
		digits = append(digits, digit)
	}
	return digits, true
}

// FracBegin returns the digits of the beginning, and true.
func FracBegin(b int, f Frac) ([]int, bool) {
	if !fracTold(b, f) {
		return nil, false
	}
	return f.begin(b), true
}

// FracRound returns the digits of the round, and true.
func FracRound(b int, f Frac) ([]int, bool) {
	if !fracTold(b, f) {
		return nil, false
	}
	return f.round(b), true
}

// FracOf returns the fraction with a beginning and a round, told by digits, at most 5 together and one at least in the round, and true.
// It fails if all digits of the round are 1 less than the base, or if the bottom would be greater than BottomMax.
func FracOf(b int, begin []int, round []int) (Frac, bool) {
	if !baseIn(b) || len(round) == 0 || len(begin)+len(round) > listMost {
		return Frac{}, false
	}
	if !digitsIn(b, begin) || !digitsIn(b, round) {
		return Frac{}, false
	}
	// A round of m digits that comes again without end is its number over
	// this, the base to the power of m, less 1: the number itself where all
	// of its digits are the greatest ones.
	nines := power(b, len(round)) - 1
	number := numberOf(b, round)
	if number == nines {
		return Frac{}, false
	}
	f := lowest(numberOf(b, begin)*nines+number, power(b, len(begin))*nines)
	if f.Bottom > BottomMax {
		return Frac{}, false
	}
	return f, true
}

// FracEnds reports whether the round is 0 alone.
func FracEnds(b int, f Frac) bool {
	return fracTold(b, f) && f.behindBegin(b) == Frac{Top: 0, Bottom: 1}
}

// FracLengths returns the lengths of the beginning and of the round, and true.
func FracLengths(b int, f Frac) (int, int, bool) {
	if !fracTold(b, f) {
		return 0, 0, false
	}
	return len(f.begin(b)), len(f.round(b)), true
}

// FracDigit returns the digit at a place, from 0 to 1000000, and true.
func FracDigit(b int, f Frac, place int) (int, bool) {
	if !fracTold(b, f) || place < 0 || place > placeMost {
		return 0, false
	}
	digit, _ := f.behind(b, place).next(b)
	return digit, true
}

// next returns the first digit of a fraction, and the fraction of the digits
// behind it.
func (f Frac) next(b int) (int, Frac) {
	product := f.Top * b
	// The top has no common divisor with the bottom, so what the product has
	// in common with the bottom comes from the base alone.
	common := commonDivisor(b, f.Bottom)
	left := Frac{Top: product % f.Bottom / common, Bottom: f.Bottom / common}
	return product / f.Bottom, left
}

// walk gives the digits of a fraction without end, each one behind the
// fraction of the digits from it on.
func (f Frac) walk(b int) iter.Seq2[Frac, int] {
	return func(yield func(Frac, int) bool) {
		here := f
		for {
			digit, left := here.next(b)
			if !yield(here, digit) {
				return
			}
			here = left
		}
	}
}

// turns reports whether a fraction has no beginning: steps by the base can
// be taken back exactly if the base has an inverse by the bottom.
func (f Frac) turns(b int) bool {
	return commonDivisor(b, f.Bottom) == 1
}

// begin returns the digits of the beginning.
func (f Frac) begin(b int) []int {
	digits := []int{}
	for here, digit := range f.walk(b) {
		if here.turns(b) {
			break
		}
		digits = append(digits, digit)
	}
	return digits
}

// behindBegin returns the fraction of the digits behind the beginning.
func (f Frac) behindBegin(b int) Frac {
	here := f
	for !here.turns(b) {
		_, here = here.next(b)
	}
	return here
}

// round returns the digits of the round.
func (f Frac) round(b int) []int {
	first := f.behindBegin(b)
	digits := []int{}
	for here, digit := range first.walk(b) {
		if here == first && len(digits) > 0 {
			break
		}
		digits = append(digits, digit)
	}
	return digits
}

// behind returns the fraction of the digits behind the first k ones. It does
// not walk, since k may be a million.
func (f Frac) behind(b int, k int) Frac {
	return lowest(f.Top*powerRest(b, k, f.Bottom)%f.Bottom, f.Bottom)
}

// baseIn reports whether a number is a base.
func baseIn(b int) bool {
	return b >= baseLeast && b <= baseMost
}

// fracTold reports whether a base and a fraction are told.
func fracTold(b int, f Frac) bool {
	return baseIn(b) && FracIn(f)
}

// digitsIn reports whether all numbers of a list are digits of a base.
func digitsIn(b int, list []int) bool {
	for _, digit := range list {
		if digit < 0 || digit >= b {
			return false
		}
	}
	return true
}

// numberOf returns the number with a list of digits, the first one having
// the greatest weight.
func numberOf(b int, list []int) int {
	number := 0
	for _, digit := range list {
		number = number*b + digit
	}
	return number
}

// lowest returns a top over a bottom without their common divisor.
func lowest(top int, bottom int) Frac {
	common := commonDivisor(top, bottom)
	return Frac{Top: top / common, Bottom: bottom / common}
}

// commonDivisor returns the greatest common divisor of two numbers that are
// not negative and not both 0.
func commonDivisor(x int, y int) int {
	for x != 0 {
		x, y = y%x, x
	}
	return y
}

// power returns a base to the power of k.
func power(b int, k int) int {
	product := 1
	for range k {
		product *= b
	}
	return product
}

// powerRest returns the rest by n of a base to the power of k.
func powerRest(b int, k int, n int) int {
	rest, square := 1%n, b%n
	for ; k > 0; k /= 2 {
		if k%2 == 1 {
			rest = rest * square % n
		}
		square = square * square % n
	}
	return rest
}
