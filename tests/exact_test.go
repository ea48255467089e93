package tests

import (
	"math"
	"math/big"

	"loop.example/g01214/impl"
)

// The functions of this file follow the document's definitions with exact numbers of math/big, so
// that they share no arithmetic with the program.

const exactBits = 1200

func newExact() *big.Float { return new(big.Float).SetPrec(exactBits) }

func exactOf(x float32) *big.Float { return newExact().SetFloat64(float64(x)) }

func exactSum(x, y *big.Float) *big.Float { return newExact().Add(x, y) }

func exactProduct(x, y *big.Float) *big.Float { return newExact().Mul(x, y) }

func exactPower(exponent int) *big.Float { return newExact().SetMantExp(big.NewFloat(1), exponent) }

// exactAt is the number at a place of at least 0, from the place alone.
func exactAt(place int64) *big.Float {
	exponent, digits := int(place>>23), place&(1<<23-1)
	if exponent == 0 {
		exponent = 1
	} else {
		digits += 1 << 23
	}
	return newExact().SetMantExp(newExact().SetInt64(digits), exponent-150)
}

// lastPlace finds the last place at which below still holds; it has to hold at 0.
func lastPlace(below func(*big.Float) bool) int64 {
	low, high := int64(0), int64(impl.MaxPlace)+1
	for high-low > 1 {
		middle := (low + high) / 2
		if below(exactAt(middle)) {
			low = middle
		} else {
			high = middle
		}
	}
	return low
}

// nearer decides between a place and the next one: side is below 0 if the value lies in the first
// half of what is between, 0 for the middle, and above 0 for the second half.
func nearer(place int64, side int) int64 {
	if side > 0 || side == 0 && place%2 == 1 {
		return place + 1
	}
	return place
}

// roundExact returns the place to which a value is rounded, and false if no number arises.
func roundExact(value *big.Float) (int64, bool) {
	size := newExact().Abs(value)
	limit := newExact().Sub(exactPower(128), exactPower(103))
	if size.Cmp(limit) >= 0 {
		return 0, false
	}
	place := lastPlace(func(x *big.Float) bool { return x.Cmp(size) <= 0 })
	if place < impl.MaxPlace {
		middle := exactProduct(exactSum(exactAt(place), exactAt(place+1)), exactPower(-1))
		place = nearer(place, size.Cmp(middle))
	}
	if value.Sign() < 0 {
		return -place, true
	}
	return place, true
}

// roundTwice rounds to the nearest float64 first, as products and squares do.
func roundTwice(value *big.Float) (int64, bool) {
	middle, _ := value.Float64()
	return roundExact(newExact().SetFloat64(middle))
}

func rootExact(x float32) int64 {
	value := exactOf(x)
	place := lastPlace(func(y *big.Float) bool { return exactProduct(y, y).Cmp(value) <= 0 })
	middle := exactProduct(exactSum(exactAt(place), exactAt(place+1)), exactPower(-1))
	return nearer(place, value.Cmp(exactProduct(middle, middle)))
}

// quotientExact divides with so many digits that no rounding of a quotient of two numbers can be
// moved by what is left out.
func quotientExact(x, y float32) (int64, bool) {
	return roundExact(newExact().Quo(exactOf(x), exactOf(y)))
}

func productParts(z, w complex64) (*big.Float, *big.Float) {
	a, b, c, d := exactOf(real(z)), exactOf(imag(z)), exactOf(real(w)), exactOf(imag(w))
	re := newExact().Sub(exactProduct(a, c), exactProduct(b, d))
	return re, exactSum(exactProduct(a, d), exactProduct(b, c))
}

func squareValue(z complex64) *big.Float {
	a, b := exactOf(real(z)), exactOf(imag(z))
	return exactSum(exactProduct(a, a), exactProduct(b, b))
}

// sampler yields the same numbers in every run.
type sampler struct{ state uint64 }

func (s *sampler) next(n int64) int64 {
	s.state = s.state*6364136223846793005 + 1442695040888963407
	return int64(s.state>>33) % n
}

// number picks from all numbers, from those near 1, from those below the normal ones, from the
// greatest ones, and from those with few digits, of which sums and products often are ties.
func (s *sampler) number() float32 {
	var place int64
	switch s.next(5) {
	case 0:
		place = s.next(impl.MaxPlace + 1)
	case 1:
		place = (127-12+s.next(24))<<23 + s.next(1<<23)
	case 2:
		place = s.next(1 << (1 + s.next(24)))
	case 3:
		place = impl.MaxPlace - s.next(1<<(1+s.next(26)))
	default:
		place = (127-20+s.next(40))<<23 + s.next(32)<<18 + s.next(4)
	}
	x := math.Float32frombits(uint32(place))
	if s.next(2) == 1 {
		return -x
	}
	return x
}

func (s *sampler) complex() complex64 { return complex(s.number(), s.number()) }
