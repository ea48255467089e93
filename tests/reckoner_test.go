package tests

import (
	"math/big"
	"testing"

	"loop.example/g01214/impl"
)

// reckoner follows the document's rounded operations, each from an exact number. It fails for good
// with the first operation from which no number arises.
type reckoner struct{ failed bool }

func (r *reckoner) number(place int64, ok bool) float32 {
	if !ok {
		r.failed = true
		return 0
	}
	return at(place)
}

func (r *reckoner) once(value *big.Float) float32 { return r.number(roundExact(value)) }

func (r *reckoner) twice(value *big.Float) float32 { return r.number(roundTwice(value)) }

func (r *reckoner) add(x, y float32) float32 { return r.once(exactSum(exactOf(x), exactOf(y))) }

func (r *reckoner) times(x, y float32) float32 { return r.once(exactProduct(exactOf(x), exactOf(y))) }

func (r *reckoner) root(x float32) float32 { return at(rootExact(x)) }

func (r *reckoner) over(x, y float32) float32 {
	if y == 0 {
		r.failed = true
		return 0
	}
	return r.number(quotientExact(x, y))
}

func (r *reckoner) plus(z, w complex64) complex64 {
	return complex(r.add(real(z), real(w)), r.add(imag(z), imag(w)))
}

func (r *reckoner) product(z, w complex64) complex64 {
	re, im := productParts(z, w)
	return complex(r.twice(re), r.twice(im))
}

func (r *reckoner) square(z complex64) float32 { return r.twice(squareValue(z)) }

func (r *reckoner) parts(z complex64, divisor float32) complex64 {
	return complex(r.over(real(z), divisor), r.over(imag(z), divisor))
}

func (r *reckoner) inner(s, t impl.Spinor) complex64 {
	return r.plus(r.product(mirrored(s[0]), t[0]), r.product(mirrored(s[1]), t[1]))
}

func (r *reckoner) normSquare(s impl.Spinor) float32 {
	return r.add(r.square(s[0]), r.square(s[1]))
}

func mirrored(z complex64) complex64 { return complex(real(z), -imag(z)) }

// wantReckoned expects what the reckoner found, or ErrLimit with a zero value if it failed.
func wantReckoned[T comparable](t *testing.T, r *reckoner, what string, got T, code int64, want T) {
	t.Helper()
	if r.failed {
		wantNone(t, what, got, code, impl.ErrLimit)
	} else {
		wantValue(t, what, got, code, want)
	}
}

func wantValue[T comparable](t *testing.T, what string, got T, code int64, want T) {
	t.Helper()
	if got != want || code != impl.ErrNone {
		t.Errorf("%s = %v, %d, want %v", what, got, code, want)
	}
}

func wantNone[T comparable](t *testing.T, what string, got T, code int64, want int64) {
	t.Helper()
	var zero T
	if got != zero || code != want {
		t.Errorf("%s = %v, %d, want the code %d and a zero value", what, got, code, want)
	}
}

// together returns n numbers of one kind, so that sums of them and of their products are rounded in
// many ways: any numbers, those near 1, those of few digits, those with squares at the lower and at
// the upper end, and those below the normal ones.
func (s *sampler) together(n int) []float32 {
	kind := s.next(6)
	list := make([]float32, n)
	for i := range list {
		x := s.ofKind(kind)
		if s.next(16) == 0 {
			x = 0
		}
		if s.next(2) == 0 {
			x = -x
		}
		list[i] = x
	}
	return list
}

func (s *sampler) ofKind(kind int64) float32 {
	switch kind {
	case 0:
		return s.number()
	case 1:
		return at((125+s.next(4))<<23 + s.next(1<<23))
	case 2:
		return at((120+s.next(14))<<23 + s.next(64)<<17 + s.next(2))
	case 3:
		return at((127-80+s.next(12))<<23 + s.next(1<<23))
	case 4:
		return at((127+60+s.next(4))<<23 + s.next(1<<23))
	}
	return at(s.next(1 << (1 + s.next(24))))
}

func (s *sampler) spinors(n int) []impl.Spinor {
	x := s.together(4 * n)
	list := make([]impl.Spinor, n)
	for i := range list {
		list[i] = impl.Spinor{complex(x[4*i], x[4*i+1]), complex(x[4*i+2], x[4*i+3])}
	}
	return list
}

func (s *sampler) vectors() (impl.Vector, impl.Vector) {
	x := s.together(6)
	return impl.Vector(x), impl.Vector(x[3:])
}
