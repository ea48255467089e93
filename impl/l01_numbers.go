package impl

import (
	"math"
	"strconv"
	"strings"
)

// The error codes of all chapters.
const (
	ErrNone = iota
	ErrInvalid
	ErrRange
	ErrLimit
	ErrNotFound
	ErrState
	ErrSyntax
)

// Limits of chapter 1.
const (
	MaxPlace = 2139095039
	MaxTerms = 100
)

const signBit = 1 << 31

// sizeBits are the bits of x without its sign. Read as a whole number, they go up one by one from 0
// through all numbers of at least 0, so they are their places; infinity and what is not a number
// come behind MaxPlace.
func sizeBits(x float32) int64 {
	return int64(math.Float32bits(x) &^ signBit)
}

func isNumber(x float32) bool {
	return sizeBits(x) <= MaxPlace
}

// numberOrLimit expects what an operation makes of numbers: float32 arithmetic leaves an infinity
// from 2^128 - 2^103 on, just where no number arises.
func numberOrLimit(x float32) (float32, int64) {
	if !isNumber(x) {
		return 0, ErrLimit
	}
	return x, ErrNone
}

func complexOrLimit(z complex64) (complex64, int64) {
	if !IsComplex(z) {
		return 0, ErrLimit
	}
	return z, ErrNone
}

// PlaceOf returns the place of x, and ErrNone.
func PlaceOf(x float32) (int64, int64) {
	if !isNumber(x) {
		return 0, ErrInvalid
	}
	return placeOf(x), ErrNone
}

func placeOf(x float32) int64 {
	if x < 0 {
		return -sizeBits(x)
	}
	return sizeBits(x)
}

// FloatAt returns the number with a place in -MaxPlace..MaxPlace, and ErrNone. (ErrInvalid is not
// returned.)
func FloatAt(place int64) (float32, int64) {
	if place < -MaxPlace || place > MaxPlace {
		return 0, ErrRange
	}
	if place < 0 {
		return -math.Float32frombits(uint32(-place)), ErrNone
	}
	return math.Float32frombits(uint32(place)), ErrNone
}

// IsComplex reports whether z is a complex number.
func IsComplex(z complex64) bool {
	return isNumber(real(z)) && isNumber(imag(z))
}

// AddComplex returns the sum, and ErrNone.
func AddComplex(z complex64, w complex64) (complex64, int64) {
	if !IsComplex(z) || !IsComplex(w) {
		return 0, ErrInvalid
	}
	return complexOrLimit(z + w)
}

// MultiplyComplex returns the product, and ErrNone.
func MultiplyComplex(z complex64, w complex64) (complex64, int64) {
	if !IsComplex(z) || !IsComplex(w) {
		return 0, ErrInvalid
	}
	// Products of two float32 are exact in float64, so each part is rounded to a float64 only by
	// its one addition, whether or not the machine fuses it with a product.
	return complexOrLimit(complex64(complex128(z) * complex128(w)))
}

// ConjugateOf returns the conjugate, and ErrNone.
func ConjugateOf(z complex64) (complex64, int64) {
	if !IsComplex(z) {
		return 0, ErrInvalid
	}
	return conjugate(z), ErrNone
}

func conjugate(z complex64) complex64 {
	return complex(real(z), -imag(z))
}

// SquareOf returns the square, and ErrNone.
func SquareOf(z complex64) (float32, int64) {
	if !IsComplex(z) {
		return 0, ErrInvalid
	}
	a, b := float64(real(z)), float64(imag(z))
	return numberOrLimit(float32(a*a + b*b))
}

// RootOf returns the root of x, and ErrNone. Errors: ErrRange if x is less than 0.
func RootOf(x float32) (float32, int64) {
	if !isNumber(x) {
		return 0, ErrInvalid
	}
	if x < 0 {
		return 0, ErrRange
	}
	// A float64 has more than twice the binary digits of a float32, so that the root of a float32,
	// rounded to it first, never comes to lie halfway between two numbers.
	return float32(math.Sqrt(float64(x))), ErrNone
}

// AbsoluteOf returns the absolute value, and ErrNone.
func AbsoluteOf(z complex64) (float32, int64) {
	square, code := SquareOf(z)
	if code != ErrNone {
		return 0, code
	}
	return RootOf(square)
}

// DivideComplex returns the quotient, and ErrNone. Errors: ErrState, ahead of ErrLimit for the
// product, if the square of w is 0; ErrLimit, ahead of it, if the square of w is no number.
func DivideComplex(z complex64, w complex64) (complex64, int64) {
	if !IsComplex(z) || !IsComplex(w) {
		return 0, ErrInvalid
	}
	square, code := SquareOf(w)
	if code != ErrNone {
		return 0, code
	}
	if square == 0 {
		return 0, ErrState
	}
	product, code := MultiplyComplex(z, conjugate(w))
	if code != ErrNone {
		return 0, code
	}
	return divideParts(product, square)
}

// divideParts expects an r that is not 0.
func divideParts(z complex64, r float32) (complex64, int64) {
	return complexOrLimit(complex(real(z)/r, imag(z)/r))
}

// SumOf returns the sum of at most MaxTerms complex numbers, added from the left to 0, and
// ErrNone.
func SumOf(list []complex64) (complex64, int64) {
	if code := checkTerms(list); code != ErrNone {
		return 0, code
	}
	var sum complex64
	for _, z := range list {
		next, code := AddComplex(sum, z)
		if code != ErrNone {
			return 0, code
		}
		sum = next
	}
	return sum, ErrNone
}

// SumByHalves returns the sum by halves of at most MaxTerms complex numbers, and ErrNone.
func SumByHalves(list []complex64) (complex64, int64) {
	if code := checkTerms(list); code != ErrNone {
		return 0, code
	}
	return addHalves(list)
}

// checkTerms looks at all terms before their count, because ErrInvalid comes ahead of ErrRange.
func checkTerms(list []complex64) int64 {
	for _, z := range list {
		if !IsComplex(z) {
			return ErrInvalid
		}
	}
	if len(list) > MaxTerms {
		return ErrRange
	}
	return ErrNone
}

func addHalves(list []complex64) (complex64, int64) {
	switch len(list) {
	case 0:
		return 0, ErrNone
	case 1:
		return list[0], ErrNone
	}
	half := len(list) / 2
	first, code := addHalves(list[:half])
	if code != ErrNone {
		return 0, code
	}
	others, code := addHalves(list[half:])
	if code != ErrNone {
		return 0, code
	}
	return AddComplex(first, others)
}

// StepsBetween returns the absolute value of the difference of the places of x and y, and ErrNone.
func StepsBetween(x float32, y float32) (int64, int64) {
	if !isNumber(x) || !isNumber(y) {
		return 0, ErrInvalid
	}
	return stepsBetween(x, y), ErrNone
}

func stepsBetween(x float32, y float32) int64 {
	steps := placeOf(x) - placeOf(y)
	if steps < 0 {
		return -steps
	}
	return steps
}

// AreNear reports whether the places of the real parts, and those of the imaginary parts, differ
// by at most k, for k of at least 0, and returns ErrNone.
func AreNear(z complex64, w complex64, k int64) (bool, int64) {
	if !IsComplex(z) || !IsComplex(w) {
		return false, ErrInvalid
	}
	if k < 0 {
		return false, ErrRange
	}
	near := stepsBetween(real(z), real(w)) <= k && stepsBetween(imag(z), imag(w)) <= k
	return near, ErrNone
}

// ComplexText returns the text of z, and ErrNone.
func ComplexText(z complex64) (string, int64) {
	if !IsComplex(z) {
		return "", ErrInvalid
	}
	return placeText(placeOf(real(z))) + "," + placeText(placeOf(imag(z))), ErrNone
}

func placeText(place int64) string {
	return strconv.FormatInt(place, 16)
}

// ParseComplex returns the complex number with a text, and ErrNone. Errors: ErrSyntax if there is
// none. (No other errors are returned.)
func ParseComplex(text string) (complex64, int64) {
	first, second, found := strings.Cut(text, ",")
	if !found {
		return 0, ErrSyntax
	}
	a, code := parseNumber(first)
	if code != ErrNone {
		return 0, code
	}
	b, code := parseNumber(second)
	if code != ErrNone {
		return 0, code
	}
	return complex(a, b), ErrNone
}

// parseNumber compares with the only text of the place, because ParseInt also takes superfluous
// zeros and signs and the digits A to F.
func parseNumber(text string) (float32, int64) {
	place, err := strconv.ParseInt(text, 16, 64)
	if err != nil || placeText(place) != text {
		return 0, ErrSyntax
	}
	x, code := FloatAt(place)
	if code != ErrNone {
		return 0, ErrSyntax
	}
	return x, ErrNone
}
