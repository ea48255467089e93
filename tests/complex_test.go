package tests

import (
	"testing"

	"loop.example/g01214/impl"
)

type operation struct {
	name string
	run  func(z, w complex64) (complex64, int64)
}

func operations() []operation {
	return []operation{{"AddComplex", impl.AddComplex}, {"MultiplyComplex", impl.MultiplyComplex}, {"DivideComplex", impl.DivideComplex}}
}

type operationCase struct{ z, w, want complex64 }

func runCases(t *testing.T, name string, run func(z, w complex64) (complex64, int64), cases []operationCase) {
	t.Helper()
	for _, c := range cases {
		z, code := run(c.z, c.w)
		wantComplex(t, name, z, code, c.want)
	}
}

func TestOperationsRefuseWhatIsNotComplex(t *testing.T) {
	for _, o := range operations() {
		for _, bad := range badComplex() {
			for _, other := range []complex64{0, 1, greatest, bad} {
				z, code := o.run(bad, other)
				wantNoComplex(t, o.name, z, code, impl.ErrInvalid)
				z, code = o.run(other, bad)
				wantNoComplex(t, o.name, z, code, impl.ErrInvalid)
			}
		}
	}
	for _, bad := range badComplex() {
		z, code := impl.ConjugateOf(bad)
		wantNoComplex(t, "ConjugateOf", z, code, impl.ErrInvalid)
		x, code := impl.SquareOf(bad)
		wantNoNumber(t, "SquareOf", x, code, impl.ErrInvalid)
		x, code = impl.AbsoluteOf(bad)
		wantNoNumber(t, "AbsoluteOf", x, code, impl.ErrInvalid)
	}
}

func TestAddComplex(t *testing.T) {
	half := power(102)
	runCases(t, "AddComplex", impl.AddComplex, []operationCase{
		{complex(1, 2), complex(3, -1), complex(4, 1)},
		{complex(1<<24, 1<<24+2), complex(1, 1), complex(1<<24, 1<<24+4)},
		{complex(-1<<24, -1<<24-2), complex(-1, -1), complex(-1<<24, -1<<24-4)},
		{complex(at(1), at(1<<23-1)), complex(at(1), at(1)), complex(at(2), at(1<<23))},
		{complex(at(1<<23), -at(1<<23)), complex(-at(1), at(1)), complex(at(1<<23-1), -at(1<<23-1))},
		{complex(greatest, -greatest), complex(half, -half), complex(greatest, -greatest)},
		{complex(greatest, minusZero), complex(-greatest, 0), 0},
	})
	// From 2^128 - 2^103 on no number arises, even if that lies in one part alone.
	for _, z := range []complex64{complex(greatest, 0), complex(0, greatest), complex(-greatest, 0), complex(0, -greatest)} {
		bound := complex(real(z)/greatest*power(103), imag(z)/greatest*power(103))
		sum, code := impl.AddComplex(z, bound)
		wantNoComplex(t, "AddComplex", sum, code, impl.ErrLimit)
	}
}

func TestAddComplexExactly(t *testing.T) {
	s := &sampler{state: 3}
	for range samples {
		z, w := s.complex(), s.complex()
		re, okRe := roundExact(exactSum(exactOf(real(z)), exactOf(real(w))))
		im, okIm := roundExact(exactSum(exactOf(imag(z)), exactOf(imag(w))))
		sum, code := impl.AddComplex(z, w)
		wantParts(t, "AddComplex", sum, code, re, im, okRe && okIm)
	}
}

func TestMultiplyComplex(t *testing.T) {
	runCases(t, "MultiplyComplex", impl.MultiplyComplex, []operationCase{
		{complex(1, 2), complex(3, -1), complex(5, 5)},
		{complex(0, 1), complex(0, 1), -1},
		{complex(greatest, 0), complex(0, 1), complex(0, greatest)},
		{complex(4097, 0), 4097, 1<<24 + 1<<13},
		{complex(minusZero, 0), complex(-1, 1), 0},
	})
	for _, w := range []complex64{2, complex(0, 2), complex(greatest, greatest)} {
		z, code := impl.MultiplyComplex(complex(greatest, greatest), w)
		wantNoComplex(t, "MultiplyComplex", z, code, impl.ErrLimit)
	}
}

// 24929 times 673 is 2^24 + 1, halfway between two numbers. What is added to it is lost in the
// float64 in between, so that the number with the even place is the result.
func TestProductsAreRoundedTwice(t *testing.T) {
	tiny := power(-20)
	runCases(t, "MultiplyComplex", impl.MultiplyComplex, []operationCase{
		{complex(24929, tiny), complex(673, -tiny), complex(1<<24, tiny*(673-24929))},
		{complex(24929, power(-149)), complex(673, -power(-149)), complex(1<<24, power(-149)*(673-24929))},
	})
	// Here it is great enough to be kept.
	z, code := impl.MultiplyComplex(complex(24929, power(-14)), complex(673, -power(-14)))
	wantComplex(t, "MultiplyComplex", z, code, complex(1<<24+2, power(-14)*(673-24929)))
	x, code := impl.SquareOf(complex(4097, power(-20)))
	wantNumber(t, "SquareOf", x, code, 1<<24+1<<13)
	x, code = impl.SquareOf(complex(power(-20), 4097))
	wantNumber(t, "SquareOf", x, code, 1<<24+1<<13)
	x, code = impl.SquareOf(complex(4097, power(-13)))
	wantNumber(t, "SquareOf", x, code, 1<<24+1<<13+2)
}

// 18631 times 1801 is 2^25 - 1.
func TestProductsAtTheLimit(t *testing.T) {
	a, b := 18631*power(50), 1801*power(53)
	below, lost := power(40), power(35)
	for _, sign := range []float32{1, -1} {
		z, code := impl.MultiplyComplex(complex(sign*a, 0), complex(b, 0))
		wantNoComplex(t, "MultiplyComplex", z, code, impl.ErrLimit)
		z, code = impl.MultiplyComplex(complex(sign*a, 0), complex(0, b))
		wantNoComplex(t, "MultiplyComplex", z, code, impl.ErrLimit)
		// 2^128 - 2^103 - 2^70 becomes 2^128 - 2^103 as a float64; 2^80 less is told apart from it.
		z, code = impl.MultiplyComplex(complex(sign*a, sign*lost), complex(b, lost))
		wantNoComplex(t, "MultiplyComplex", z, code, impl.ErrLimit)
		z, code = impl.MultiplyComplex(complex(sign*a, sign*below), complex(b, below))
		wantComplex(t, "MultiplyComplex", z, code, complex(sign*greatest, sign*(a*below+b*below)))
	}
}

func TestProductsBelowTheNormalNumbers(t *testing.T) {
	runCases(t, "MultiplyComplex", impl.MultiplyComplex, []operationCase{
		{complex(power(-75), 0), complex(power(-75), 0), 0},
		{complex(power(-75), 0), complex(3*power(-75), 0), complex(power(-148), 0)},
		{complex(power(-75), 0), complex(power(-75)+power(-98), 0), complex(power(-149), 0)},
		{complex(0, power(-149)), complex(0, power(-149)), 0},
		{complex(power(-75), power(-75)), complex(power(-75), -power(-75)), complex(power(-149), 0)},
		{complex(power(-126), 0), complex(0.5, -0.5), complex(power(-127), -power(-127))},
		{complex(greatest, -greatest), complex(power(-149), 0), complex(power(-21)-power(-45), power(-45)-power(-21))},
	})
}

func TestMultiplyComplexExactly(t *testing.T) {
	s := &sampler{state: 4}
	for range samples {
		z, w := s.complex(), s.complex()
		reValue, imValue := productParts(z, w)
		re, okRe := roundTwice(reValue)
		im, okIm := roundTwice(imValue)
		product, code := impl.MultiplyComplex(z, w)
		wantParts(t, "MultiplyComplex", product, code, re, im, okRe && okIm)
	}
}

// Promise 1: products go along with conjugates; they are commutative, too.
func TestProductsAndConjugates(t *testing.T) {
	s := &sampler{state: 5}
	for range samples {
		z, w := s.complex(), s.complex()
		product, code := impl.MultiplyComplex(z, w)
		turned, codeTurned := impl.MultiplyComplex(w, z)
		first, _ := impl.ConjugateOf(z)
		second, _ := impl.ConjugateOf(w)
		conjugates, codeConjugates := impl.MultiplyComplex(first, second)
		want, _ := impl.ConjugateOf(product)
		if turned != product || codeTurned != code || conjugates != want || codeConjugates != code {
			t.Errorf("of %v and %v: %v, %v, %v", z, w, product, turned, conjugates)
		}
	}
}

func TestConjugateOf(t *testing.T) {
	for _, z := range []complex64{0, 1, complex(1, 2), complex(-3, -4), complex(greatest, -greatest), complex(0, power(-149))} {
		conjugate, code := impl.ConjugateOf(z)
		wantComplex(t, "ConjugateOf", conjugate, code, complex(real(z), -imag(z)))
	}
}

// A power of two moves the place by whole steps of 2^23 as long as all numbers are normal ones.
func TestMultiplicationByPowersOfTwoIsExact(t *testing.T) {
	s := &sampler{state: 6}
	for range samples {
		re, im := 1<<23+s.next(254<<23), 1<<23+s.next(254<<23)
		low, high := min(re, im)>>23, max(re, im)>>23
		k := 1 - low + s.next(254-high+low)
		if k < -126 || k > 127 {
			continue
		}
		z, code := impl.MultiplyComplex(complex(at(re), -at(im)), complex(power(int(k)), 0))
		wantComplex(t, "MultiplyComplex", z, code, complex(at(re+k<<23), -at(im+k<<23)))
	}
}

func TestSquaresAndAbsoluteValues(t *testing.T) {
	cases := []struct {
		z                complex64
		square, absolute float32
	}{
		{0, 0, 0}, {complex(minusZero, minusZero), 0, 0}, {complex(3, -4), 25, 5}, {complex(-5, 12), 169, 13},
		{complex(power(-75), 0), 0, 0},
		{complex(power(-75), power(-149)), 0, 0},
		{complex(power(-75), -power(-75)), power(-149), at(0x3f3504f3 - 74<<23)},
		{complex(0, power(-75)+power(-98)), power(-149), at(0x3f3504f3 - 74<<23)},
		{complex(power(63), 0), power(126), power(63)},
		{complex(0, at(0x5f7fffff)), at(0x7f7ffffe), at(0x5f7fffff)},
	}
	for _, c := range cases {
		x, code := impl.SquareOf(c.z)
		wantNumber(t, "SquareOf", x, code, c.square)
		x, code = impl.AbsoluteOf(c.z)
		wantNumber(t, "AbsoluteOf", x, code, c.absolute)
	}
	for _, z := range []complex64{complex(power(64), 0), complex(0, -power(64)), complex(power(63)*1.5, power(63)*1.5), complex(greatest, greatest)} {
		x, code := impl.SquareOf(z)
		wantNoNumber(t, "SquareOf", x, code, impl.ErrLimit)
		x, code = impl.AbsoluteOf(z)
		wantNoNumber(t, "AbsoluteOf", x, code, impl.ErrLimit)
	}
}

func TestSquaresAndAbsoluteValuesExactly(t *testing.T) {
	s := &sampler{state: 7}
	for range samples {
		z := s.complex()
		place, ok := roundTwice(squareValue(z))
		square, code := impl.SquareOf(z)
		absolute, codeAbsolute := impl.AbsoluteOf(z)
		if !ok {
			wantNoNumber(t, "SquareOf", square, code, impl.ErrLimit)
			wantNoNumber(t, "AbsoluteOf", absolute, codeAbsolute, impl.ErrLimit)
			continue
		}
		wantNumber(t, "SquareOf", square, code, at(place))
		wantNumber(t, "AbsoluteOf", absolute, codeAbsolute, at(rootExact(at(place))))
	}
}

func TestDivideComplex(t *testing.T) {
	third := at(0x3eaaaaab)
	runCases(t, "DivideComplex", impl.DivideComplex, []operationCase{
		{complex(5, 5), complex(3, -1), complex(1, 2)},
		{0, complex(3, 4), 0},
		{complex(1, -1), complex(3, 0), complex(third, -third)},
		{1, complex(0, 2), complex(0, -0.5)},
		// The product is 2^-148, the square 4: the quotient is halfway between 0 and the least number.
		{complex(power(-149), 0), complex(2, 0), 0},
		{complex(3*power(-149), 0), complex(2, 0), complex(power(-148), 0)},
		{complex(power(-75), 0), complex(power(-75), power(-75)), 0},
		{complex(3*power(-75), 0), complex(power(-75), power(-75)), complex(2, -2)},
	})
}

func TestDivideComplexErrors(t *testing.T) {
	cases := []struct {
		z, w complex64
		code int64
	}{
		{1, 0, impl.ErrState},
		{0, complex(minusZero, minusZero), impl.ErrState},
		{complex(greatest, greatest), complex(power(-75), 0), impl.ErrState},
		{1, complex(0, -power(-149)), impl.ErrState},
		{1, complex(power(-75), power(-149)), impl.ErrState},
		{0, complex(power(64), 0), impl.ErrLimit},
		{1, complex(greatest, greatest), impl.ErrLimit},
		{complex(greatest, 0), complex(1024, 0), impl.ErrLimit},
		{complex(0, -greatest), complex(1024, 0), impl.ErrLimit},
		{complex(power(100), 0), complex(power(-40), 0), impl.ErrLimit},
		{complex(0, power(100)), complex(power(-40), 0), impl.ErrLimit},
	}
	for _, c := range cases {
		z, code := impl.DivideComplex(c.z, c.w)
		wantNoComplex(t, "DivideComplex", z, code, c.code)
	}
}

func TestDivideComplexExactly(t *testing.T) {
	s := &sampler{state: 8}
	for range samples {
		z, w := s.complex(), s.complex()
		quotient, code := impl.DivideComplex(z, w)
		square, ok := roundTwice(squareValue(w))
		if ok && square == 0 {
			wantNoComplex(t, "DivideComplex", quotient, code, impl.ErrState)
			continue
		}
		reValue, imValue := productParts(z, complex(real(w), -imag(w)))
		re, okRe := roundTwice(reValue)
		im, okIm := roundTwice(imValue)
		if ok && okRe && okIm {
			re, okRe = quotientExact(at(re), at(square))
			im, okIm = quotientExact(at(im), at(square))
		}
		wantParts(t, "DivideComplex", quotient, code, re, im, ok && okRe && okIm)
	}
}
