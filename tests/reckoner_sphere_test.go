package tests

import (
	"math/big"
	"slices"
	"testing"

	"loop.example/g01214/impl"
)

// The functions of this file follow chapter 4 of the document with the reckoner. Those that may end
// in another way than ErrLimit return a code.

var far = impl.Point{Far: true}

// ended returns what has been found, or ErrLimit with a zero value if the reckoner failed.
func ended[T any](r *reckoner, value T) (T, int64) {
	if r.failed {
		var zero T
		return zero, impl.ErrLimit
	}
	return value, impl.ErrNone
}

func spinorFor(p impl.Point) impl.Spinor {
	if p.Far {
		return impl.Spinor{0, 1}
	}
	return impl.Spinor{1, p.At}
}

func (r *reckoner) pointFor(s impl.Spinor) (impl.Point, int64) {
	below := r.square(s[0])
	if r.failed {
		return impl.Point{}, impl.ErrLimit
	}
	if below != 0 {
		return ended(r, impl.Point{At: r.parts(r.product(s[1], mirrored(s[0])), below)})
	}
	above := r.square(s[1])
	if !r.failed && above == 0 {
		return impl.Point{}, impl.ErrState
	}
	return ended(r, far)
}

func (r *reckoner) opposite(p impl.Point) (impl.Point, int64) {
	if p.Far {
		return impl.Point{}, impl.ErrNone
	}
	square := r.square(p.At)
	if !r.failed && square == 0 {
		return far, impl.ErrNone
	}
	return ended(r, impl.Point{At: r.parts(r.product(-1, p.At), square)})
}

func (r *reckoner) less(x, y float32) float32 { return r.add(x, -y) }

func (r *reckoner) vectorFor(p impl.Point) impl.Vector {
	if p.Far {
		return impl.Vector{0, 0, -1}
	}
	x, y, q := real(p.At), imag(p.At), r.square(p.At)
	if r.failed {
		return impl.Vector{}
	}
	return impl.Vector{
		r.over(r.add(x, x), r.add(1, q)),
		r.over(r.add(y, y), r.add(1, q)),
		r.over(r.less(1, q), r.add(1, q)),
	}
}

func (r *reckoner) between(v, w impl.Vector) impl.Vector {
	return impl.Vector{r.less(v[0], w[0]), r.less(v[1], w[1]), r.less(v[2], w[2])}
}

func (r *reckoner) dot(v, w impl.Vector) float32 {
	return r.add(r.add(r.times(v[0], w[0]), r.times(v[1], w[1])), r.times(v[2], w[2]))
}

func (r *reckoner) chord(p, q impl.Point) float32 {
	d := r.between(r.vectorFor(p), r.vectorFor(q))
	return r.dot(d, d)
}

func (r *reckoner) circle(p, q, s impl.Point) (impl.Circle, int64) {
	first := r.vectorFor(p)
	a, b := r.between(r.vectorFor(q), first), r.between(r.vectorFor(s), first)
	if r.failed {
		return impl.Circle{}, impl.ErrLimit
	}
	normal := impl.Vector{
		r.less(r.times(a[1], b[2]), r.times(a[2], b[1])),
		r.less(r.times(a[2], b[0]), r.times(a[0], b[2])),
		r.less(r.times(a[0], b[1]), r.times(a[1], b[0])),
	}
	if normal == (impl.Vector{}) {
		return impl.Circle{}, impl.ErrState
	}
	return ended(r, impl.Circle{Normal: normal, Height: r.dot(normal, first)})
}

func (r *reckoner) side(c impl.Circle, p impl.Point) int64 {
	above := r.less(r.dot(c.Normal, r.vectorFor(p)), c.Height)
	return int64(big.NewFloat(float64(above)).Sign())
}

func (r *reckoner) bracket(s, t impl.Spinor) complex64 {
	first, second := r.product(s[0], t[1]), r.product(s[1], t[0])
	return complex(r.less(real(first), real(second)), r.less(imag(first), imag(second)))
}

func (r *reckoner) cross(p, q, s, t impl.Point) (impl.Point, int64) {
	a, b, c, d := spinorFor(p), spinorFor(q), spinorFor(s), spinorFor(t)
	above := r.product(r.bracket(a, c), r.bracket(b, d))
	below := r.product(r.bracket(a, d), r.bracket(b, c))
	if r.failed {
		return impl.Point{}, impl.ErrLimit
	}
	return r.pointFor(impl.Spinor{below, above})
}

// heights takes the greatest of the numbers that are left, the first one of equal ones, again and
// again.
func (r *reckoner) heights(list []impl.Point) []int64 {
	var numbers []float32
	var left, taken []int64
	for i, p := range list {
		numbers, left = append(numbers, r.vectorFor(p)[2]), append(left, int64(i))
	}
	for len(left) > 0 {
		best := 0
		for k, i := range left {
			if numbers[i] > numbers[left[best]] {
				best = k
			}
		}
		taken = append(taken, left[best])
		left = slices.Delete(left, best, best+1)
	}
	return taken
}

// points yields n points of one kind, far ones, 0 and equal ones among them.
func (s *sampler) points(n int) []impl.Point {
	x := s.together(2 * n)
	list := make([]impl.Point, n)
	for i := range list {
		switch s.next(12) {
		case 0:
			list[i] = far
		case 1:
			list[i] = list[s.next(int64(i)+1)]
		default:
			list[i] = impl.Point{At: complex(x[2*i], x[2*i+1])}
		}
	}
	return list
}

// atPoints are the points with the real parts that are told, and with the imaginary part 0.
func atPoints(parts ...float32) []impl.Point {
	var list []impl.Point
	for _, x := range parts {
		list = append(list, impl.Point{At: complex(x, 0)})
	}
	return list
}

// goodPoints are points at all edges that chapter 4 names.
func goodPoints() []impl.Point {
	list := []impl.Point{far, {Far: true, At: minusPair}, {Far: true, At: complex(0, minusZero)}, {At: minusPair}}
	for _, x := range []float32{0, 1, 2, at(1), at(1<<23 - 1), at(1 << 23), power(-76), power(-75), 1.5 * power(-75), power(-74), power(63), power(64), greatest} {
		list = append(list, impl.Point{At: complex(x, 0)}, impl.Point{At: complex(0, x)})
		list = append(list, impl.Point{At: complex(-x, x)}, impl.Point{At: complex(minusZero, -x)})
	}
	return list
}

// badPoints are no points: far ones with an At that is not 0, and those with what is no number.
func badPoints() []impl.Point {
	var list []impl.Point
	for _, x := range []float32{1, -1, at(1), -at(1), greatest} {
		for _, z := range []complex64{complex(x, 0), complex(0, x), complex(x, minusZero), complex(x, x)} {
			list = append(list, impl.Point{Far: true, At: z})
		}
	}
	for _, z := range badComplex() {
		list = append(list, impl.Point{At: z}, impl.Point{Far: true, At: z})
		list = append(list, impl.Point{At: complex(real(z), 0)}, impl.Point{Far: true, At: complex(0, imag(z))})
	}
	return slices.DeleteFunc(list, func(p impl.Point) bool {
		return p.Far && p.At == 0 || !p.Far && p.At-p.At == 0
	})
}

// wantOutcome expects a value with ErrNone, or a zero value with another code.
func wantOutcome[T comparable](t *testing.T, what string, got T, code int64, want T, wantCode int64) {
	t.Helper()
	if wantCode == impl.ErrNone {
		wantValue(t, what, got, code, want)
	} else {
		wantNone(t, what, got, code, wantCode)
	}
}
