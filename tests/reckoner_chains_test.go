package tests

import (
	"math"
	"slices"
	"testing"

	"loop.example/g01214/impl"
)

// The functions of this file follow chapter 10 of the document with the reckoner. Those that may end
// in another way than ErrLimit return a code.

func (r *reckoner) compensated(list []float32) float32 {
	var sum, rest float32
	for _, x := range list {
		next := r.add(sum, x)
		if math.Abs(float64(sum)) >= math.Abs(float64(x)) {
			rest = r.add(rest, r.add(r.less(sum, next), x))
		} else {
			rest = r.add(rest, r.add(r.less(x, next), sum))
		}
		sum = next
	}
	return r.add(sum, rest)
}

func (r *reckoner) chainEnergy(c impl.Chain) float32 {
	vectors, n := r.vectorsOfSpinors(c.Spinors), len(c.Spinors)
	var terms []float32
	for k := range n - 1 {
		terms = append(terms, r.times(c.Couplings[k], r.dot(vectors[k], vectors[k+1])))
	}
	for k := range n {
		terms = append(terms, r.dot(c.Field, vectors[k]))
	}
	return r.compensated(terms)
}

func (r *reckoner) localField(c impl.Chain, k int) impl.Vector {
	field := c.Field
	if k > 0 {
		before := r.vectorOfSpinor(c.Spinors[k-1])
		for m := range 3 {
			field[m] = r.add(field[m], r.times(c.Couplings[k-1], before[m]))
		}
	}
	if k < len(c.Spinors)-1 {
		behind := r.vectorOfSpinor(c.Spinors[k+1])
		for m := range 3 {
			field[m] = r.add(field[m], r.times(c.Couplings[k], behind[m]))
		}
	}
	return field
}

func (r *reckoner) along(v impl.Vector) (impl.Spinor, int64) {
	m := r.root(r.dot(v, v))
	if !r.failed && m == 0 {
		return impl.Spinor{}, impl.ErrState
	}
	first := r.add(m, v[2])
	if !r.failed && first == 0 {
		return down, impl.ErrNone
	}
	s := impl.Spinor{complex(first, 0), complex(v[0], v[1])}
	norm := r.root(r.normSquare(s))
	if !r.failed && norm == 0 {
		return impl.Spinor{}, impl.ErrState
	}
	return ended(r, impl.Spinor{r.parts(s[0], norm), r.parts(s[1], norm)})
}

func (r *reckoner) aligned(c impl.Chain, k int) (impl.Chain, int64) {
	made := copyOf(c)
	field := r.localField(c, k)
	if r.failed {
		return impl.Chain{}, impl.ErrLimit
	}
	s, code := r.along(turnedRound(field))
	if code == impl.ErrLimit {
		return impl.Chain{}, code
	}
	if code == impl.ErrNone {
		made.Spinors[k] = s
	}
	return made, impl.ErrNone
}

func (r *reckoner) swept(c impl.Chain, times int64) (impl.Chain, int64) {
	code := int64(impl.ErrNone)
	for range times {
		for k := range len(c.Spinors) {
			if c, code = r.aligned(c, k); code != impl.ErrNone {
				return impl.Chain{}, code
			}
		}
	}
	return c, impl.ErrNone
}

func (r *reckoner) turnedChain(a impl.Turn, c impl.Chain) (impl.Chain, int64) {
	made := copyOf(c)
	for k, s := range c.Spinors {
		made.Spinors[k] = r.image(a, s)
	}
	return ended(r, made)
}

func (r *reckoner) domains(c impl.Chain) ([]int64, int64) {
	vectors := r.vectorsOfSpinors(c.Spinors)
	var domains []int64
	start := 0
	for k := range vectors {
		if k == len(vectors)-1 || r.dot(vectors[k], vectors[k+1]) < 0 {
			domains = append(domains, int64(k+1-start))
			start = k + 1
		}
	}
	return ended(r, domains)
}

func (r *reckoner) correlation(c impl.Chain, d int) float32 {
	vectors := r.vectorsOfSpinors(c.Spinors)
	var dots []float32
	for k := 0; k+d < len(vectors); k++ {
		dots = append(dots, r.dot(vectors[k], vectors[k+d]))
	}
	return r.over(r.compensated(dots), float32(len(vectors)-d))
}

func copyOf(c impl.Chain) impl.Chain {
	return impl.Chain{Spinors: slices.Clone(c.Spinors), Couplings: slices.Clone(c.Couplings), Field: c.Field}
}

func sameChain(c, d impl.Chain) bool {
	return slices.Equal(c.Spinors, d.Spinors) && slices.Equal(c.Couplings, d.Couplings) && c.Field == d.Field
}

func wantChain(t *testing.T, what string, got impl.Chain, code int64, want impl.Chain) {
	t.Helper()
	if !sameChain(got, want) || code != impl.ErrNone {
		t.Errorf("%s = %v, %d, want %v", what, got, code, want)
	}
}

func wantNoChain(t *testing.T, what string, got impl.Chain, code int64, want int64) {
	t.Helper()
	if !sameChain(got, impl.Chain{}) || code != want {
		t.Errorf("%s = %v, %d, want the code %d and a zero value", what, got, code, want)
	}
}

// wantChainOutcome expects a chain with ErrNone, or none with another code.
func wantChainOutcome(t *testing.T, what string, got impl.Chain, code int64, want impl.Chain, wantCode int64) {
	t.Helper()
	if wantCode == impl.ErrNone {
		wantChain(t, what, got, code, want)
	} else {
		wantNoChain(t, what, got, code, wantCode)
	}
}

// alongAxes have vectors along the axes.
var alongAxes = []impl.Spinor{up, down, {1, 1}, {1, -1}, {1, i64}, {1, -i64}, {}}

// chain yields a chain of n spinors: one whose vectors are whole, so that dots and local fields are 0
// here and there, one of numbers of one kind, or, most often, one of a polygon with couplings and a
// field near 1, or times powers of two.
func (s *sampler) chain(n int) impl.Chain {
	switch s.next(8) {
	case 0, 1:
		return s.wholeChain(n)
	case 2:
		x := s.together(n + 2)
		return impl.Chain{Spinors: s.spinors(n), Couplings: x[:n-1], Field: impl.Vector(x[n-1:])}
	}
	x := s.nearOne(n + 2)
	c := impl.Chain{Spinors: s.polygon(n), Couplings: x[:n-1], Field: impl.Vector(x[n-1:])}
	if s.next(4) == 0 {
		c.Field = longer(c.Field, power(int(s.next(160))-80))
	}
	if s.next(4) == 0 {
		size := power(int(s.next(200)) - 80)
		for k := range c.Couplings {
			c.Couplings[k] *= size
		}
	}
	return c
}

func (s *sampler) wholeChain(n int) impl.Chain {
	c := impl.Chain{Field: impl.Vector{real(s.whole(1)), real(s.whole(1)), imag(s.whole(1))}}
	plain := s.next(2) == 0
	for k := range n {
		spinor := impl.Spinor{s.whole(1), s.whole(1)}
		if plain {
			spinor = alongAxes[s.next(7)]
		}
		c.Spinors = append(c.Spinors, spinor)
		if k > 0 {
			c.Couplings = append(c.Couplings, real(s.whole(1)))
		}
	}
	return c
}

// chains yields chains of 1 to 16 spinors, as many of each.
func (s *sampler) chains(each int) []impl.Chain {
	var list []impl.Chain
	for n := 1; n <= impl.MaxChain; n++ {
		for range each {
			list = append(list, s.chain(n))
		}
	}
	return list
}
