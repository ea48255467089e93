package tests

import (
	"math/big"
	"testing"

	"loop.example/g01214/impl"
)

// The functions of this file follow chapter 8 of the document, corner by corner, with the reckoner.
// Those that may end in another way than ErrLimit return a code.

func (r *reckoner) invariant(list []impl.Spinor) complex64 {
	n := len(list)
	product := r.inner(list[0], list[1%n])
	for k := 1; k < n; k++ {
		product = r.product(product, r.inner(list[k], list[(k+1)%n]))
	}
	return product
}

func (r *reckoner) phase(z complex64) (complex64, int64) {
	size := r.root(r.square(z))
	if !r.failed && size == 0 {
		return 0, impl.ErrState
	}
	return ended(r, r.parts(z, size))
}

func (r *reckoner) phaseOfLoop(list []impl.Spinor) (complex64, int64) {
	return r.phase(r.invariant(list))
}

func (r *reckoner) parallel(list []impl.Spinor) ([]impl.Spinor, int64) {
	made := []impl.Spinor{list[0]}
	for k := 1; k < len(list); k++ {
		phase, code := r.phase(r.inner(made[k-1], list[k]))
		if code != impl.ErrNone {
			return nil, code
		}
		back := mirrored(phase)
		made = append(made, impl.Spinor{r.product(back, list[k][0]), r.product(back, list[k][1])})
	}
	return ended(r, made)
}

func (r *reckoner) closing(list []impl.Spinor) (complex64, int64) {
	made, code := r.parallel(list)
	if code != impl.ErrNone {
		return 0, code
	}
	return r.phase(r.inner(made[len(made)-1], list[0]))
}

func (r *reckoner) middle(s, t impl.Spinor) (impl.Spinor, int64) {
	both, code := r.parallel([]impl.Spinor{s, t})
	if code != impl.ErrNone {
		return impl.Spinor{}, code
	}
	sum := impl.Spinor{r.plus(both[0][0], both[1][0]), r.plus(both[0][1], both[1][1])}
	norm := r.root(r.normSquare(sum))
	if !r.failed && norm == 0 {
		return impl.Spinor{}, impl.ErrState
	}
	return ended(r, impl.Spinor{r.parts(sum[0], norm), r.parts(sum[1], norm)})
}

func (r *reckoner) refined(list []impl.Spinor) ([]impl.Spinor, int64) {
	var made []impl.Spinor
	for k, s := range list {
		between, code := r.middle(s, list[(k+1)%len(list)])
		if code != impl.ErrNone {
			return nil, code
		}
		made = append(made, s, between)
	}
	return made, impl.ErrNone
}

func oppositeFor(s impl.Spinor) impl.Spinor { return impl.Spinor{-mirrored(s[1]), mirrored(s[0])} }

func (r *reckoner) carrying(s, t impl.Spinor) impl.Turn {
	o, p := oppositeFor(t), oppositeFor(s)
	var table impl.Turn
	for i := range 2 {
		for j := range 2 {
			table[i][j] = r.plus(r.product(t[i], mirrored(s[j])), r.product(o[i], mirrored(p[j])))
		}
	}
	return table
}

func (r *reckoner) round(list []impl.Spinor) impl.Turn {
	last := len(list) - 1
	table := r.carrying(list[last], list[0])
	for k := last - 1; k >= 0; k-- {
		table = r.turns(table, r.carrying(list[k], list[k+1]))
	}
	return table
}

func (r *reckoner) turningSign(p, q, s impl.Point) int64 {
	area := imag(r.invariant([]impl.Spinor{spinorFor(p), spinorFor(q), spinorFor(s)}))
	return int64(big.NewFloat(float64(area)).Sign())
}

func (r *reckoner) perimeter(list []impl.Spinor) float32 {
	n := len(list)
	sum := r.less(1, r.square(r.inner(list[0], list[1%n])))
	for k := 1; k < n; k++ {
		sum = r.add(sum, r.less(1, r.square(r.inner(list[k], list[(k+1)%n]))))
	}
	return sum
}

// corner has a norm near 1.
func (s *sampler) corner() impl.Spinor { return impl.Spinor(s.turning()[0]) }

// polygon yields n corners: most often such with norms near 1, of which all products stay finite, or
// these times powers of two, of which some do; otherwise any spinors of one kind. Some corners are
// equal, or 0.
func (s *sampler) polygon(n int) []impl.Spinor {
	list := s.spinors(n)
	kind, span := s.next(6), s.next(60)
	for i := range list {
		if kind > 1 {
			list[i] = s.corner()
		}
		if kind == 2 || kind == 3 {
			size := complex(power(int(s.next(2*span+1)-span)), 0)
			list[i] = impl.Spinor{size * list[i][0], size * list[i][1]}
		}
		switch s.next(60) {
		case 0:
			list[i] = impl.Spinor{}
		case 1, 2, 3:
			list[i] = list[s.next(int64(i)+1)]
		}
	}
	return list
}

// wantListOutcome expects a list with ErrNone, or none with another code.
func wantListOutcome[T comparable](t *testing.T, what string, got []T, code int64, want []T, wantCode int64) {
	t.Helper()
	if wantCode == impl.ErrNone {
		wantList(t, what, got, code, want)
	} else {
		wantNoList(t, what, got, code, wantCode)
	}
}
