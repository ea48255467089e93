package tests

import (
	"math"
	"strconv"

	"loop.example/g01214/impl"
)

// The functions of this file follow chapter 3 of the document entry by entry with the reckoner.

var unit = impl.Turn{{1, 0}, {0, 1}}

// daggered returns the adjoint.
func daggered(a impl.Turn) impl.Turn {
	return impl.Turn{{mirrored(a[0][0]), mirrored(a[1][0])}, {mirrored(a[0][1]), mirrored(a[1][1])}}
}

// negative returns the table times -1.
func negative(a impl.Turn) impl.Turn {
	return impl.Turn{{-a[0][0], -a[0][1]}, {-a[1][0], -a[1][1]}}
}

func (r *reckoner) turns(a, b impl.Turn) impl.Turn {
	var product impl.Turn
	for i := range 2 {
		for j := range 2 {
			product[i][j] = r.plus(r.product(a[i][0], b[0][j]), r.product(a[i][1], b[1][j]))
		}
	}
	return product
}

func (r *reckoner) image(a impl.Turn, s impl.Spinor) impl.Spinor {
	return impl.Spinor{
		r.plus(r.product(a[0][0], s[0]), r.product(a[0][1], s[1])),
		r.plus(r.product(a[1][0], s[0]), r.product(a[1][1], s[1])),
	}
}

func (r *reckoner) imageOfVector(a impl.Turn, v impl.Vector) impl.Vector {
	m := impl.Turn{{complex(v[2], 0), complex(v[0], -v[1])}, {complex(v[0], v[1]), complex(-v[2], 0)}}
	n := r.turns(r.turns(a, m), daggered(a))
	return impl.Vector{real(n[1][0]), imag(n[1][0]), real(n[0][0])}
}

func (r *reckoner) determinant(a impl.Turn) complex64 {
	first, second := r.product(a[0][0], a[1][1]), r.product(a[0][1], a[1][0])
	return complex(r.add(real(first), -real(second)), r.add(imag(first), -imag(second)))
}

func (r *reckoner) drift(a impl.Turn) float32 {
	drift := math.Abs(float64(r.add(r.normSquare(a[0]), -1)))
	d := r.determinant(a)
	drift = max(drift, math.Abs(float64(r.add(real(d), -1))), math.Abs(float64(imag(d))))
	return float32(drift)
}

func (r *reckoner) power(a impl.Turn, k int64) impl.Turn {
	if k < 0 {
		a, k = daggered(a), -k
	}
	power := unit
	if k == 0 {
		return power
	}
	for _, digit := range strconv.FormatInt(k, 2) {
		power = r.turns(power, power)
		if digit == '1' {
			power = r.turns(power, a)
		}
	}
	return power
}

// halved returns c(k) and s(k).
func (r *reckoner) halved(k int64) (float32, float32) {
	if k == 0 {
		return 0, 1
	}
	before, sine := r.halved(k - 1)
	cosine := r.root(r.over(r.add(1, before), 2))
	return cosine, r.over(sine, r.times(2, cosine))
}

func (s *sampler) tables(n int) []impl.Turn {
	rows := s.spinors(2 * n)
	list := make([]impl.Turn, n)
	for i := range list {
		list[i] = impl.Turn{rows[2*i], rows[2*i+1]}
	}
	return list
}

// turning is a table with a determinant near 1, so that many products of such ones stay finite.
func (s *sampler) turning() impl.Turn {
	var x [4]float64
	size := 0.0
	for i := range x {
		x[i] = float64(s.next(2001)-1000) + 0.5
		size += x[i] * x[i]
	}
	var p [4]float32
	for i := range p {
		p[i] = float32(x[i] / math.Sqrt(size))
	}
	return impl.Turn{{complex(p[0], -p[3]), complex(-p[2], -p[1])}, {complex(p[2], -p[1]), complex(p[0], p[3])}}
}

// anyTables yields tables of all kinds, turns among them.
func (s *sampler) anyTables(n int) []impl.Turn {
	if s.next(4) > 0 {
		return s.tables(n)
	}
	list := make([]impl.Turn, n)
	for i := range list {
		list[i] = s.turning()
	}
	return list
}
