package tests

import "loop.example/g01214/impl"

// The functions of this file follow chapter 6 of the document with the reckoner. Those that may end
// in another way than ErrLimit return a code.

// mixtureWith has a and d at 0, 0 and 1, 1, and c at 1, 0.
func mixtureWith(a, d float32, c complex64) impl.Turn {
	return impl.Turn{{complex(a, 0), mirrored(c)}, {c, complex(d, 0)}}
}

func partsOfMixture(m impl.Turn) (float32, float32, complex64) {
	return real(m[0][0]), real(m[1][1]), m[1][0]
}

func isMixed(m impl.Turn) bool {
	for _, row := range m {
		for _, z := range row {
			if z-z != 0 {
				return false
			}
		}
	}
	if imag(m[0][0]) != 0 || imag(m[1][1]) != 0 || real(m[0][0]) < 0 || real(m[1][1]) < 0 {
		return false
	}
	return real(m[0][1]) == real(m[1][0]) && imag(m[0][1]) == -imag(m[1][0])
}

func (r *reckoner) scaled(z complex64, x float32) complex64 {
	return complex(r.times(real(z), x), r.times(imag(z), x))
}

func (r *reckoner) mixed(s impl.Spinor) impl.Turn {
	return mixtureWith(r.square(s[0]), r.square(s[1]), r.product(s[1], mirrored(s[0])))
}

func (r *reckoner) weighted(list []impl.Spinor, weights []float32) impl.Turn {
	var sum impl.Turn
	for n, s := range list {
		one := r.mixed(s)
		for i := range 2 {
			for j := range 2 {
				sum[i][j] = r.plus(sum[i][j], r.scaled(one[i][j], weights[n]))
			}
		}
	}
	return sum
}

func (r *reckoner) trace(m impl.Turn) float32 {
	a, d, _ := partsOfMixture(m)
	return r.add(a, d)
}

func (r *reckoner) normed(m impl.Turn) (impl.Turn, int64) {
	trace := r.trace(m)
	if !r.failed && trace == 0 {
		return impl.Turn{}, impl.ErrState
	}
	for i := range 2 {
		for j := range 2 {
			m[i][j] = r.parts(m[i][j], trace)
		}
	}
	return ended(r, m)
}

func (r *reckoner) purity(m impl.Turn) float32 {
	a, d, c := partsOfMixture(m)
	square := r.square(c)
	return r.add(r.add(r.times(a, a), r.times(d, d)), r.add(square, square))
}

func (r *reckoner) mixtureVector(m impl.Turn) impl.Vector {
	a, d, c := partsOfMixture(m)
	return impl.Vector{r.add(real(c), real(c)), r.add(imag(c), imag(c)), r.less(a, d)}
}

func (r *reckoner) mixtureFor(v impl.Vector) (impl.Turn, int64) {
	c := complex(r.over(v[0], 2), r.over(v[1], 2))
	m := mixtureWith(r.over(r.add(1, v[2]), 2), r.over(r.less(1, v[2]), 2), c)
	if !r.failed && !isMixed(m) {
		return impl.Turn{}, impl.ErrState
	}
	return ended(r, m)
}

func (r *reckoner) turned(a, m impl.Turn) (impl.Turn, int64) {
	n := r.turns(r.turns(a, m), daggered(a))
	made := mixtureWith(real(n[0][0]), real(n[1][1]), n[1][0])
	if !r.failed && !isMixed(made) {
		return impl.Turn{}, impl.ErrState
	}
	return ended(r, made)
}

func (r *reckoner) dephased(m impl.Turn, k float32) impl.Turn {
	a, d, c := partsOfMixture(m)
	return mixtureWith(a, d, r.scaled(c, k))
}

func (r *reckoner) damped(m impl.Turn, g float32, times int64) impl.Turn {
	for range times {
		a, d, c := partsOfMixture(m)
		root := r.root(r.less(1, g))
		m = mixtureWith(r.add(a, r.times(g, d)), r.less(d, r.times(g, d)), r.scaled(c, root))
	}
	return m
}

func (r *reckoner) expectation(m impl.Turn, s impl.Spinor) float32 {
	return real(r.inner(s, r.image(m, s)))
}

func (r *reckoner) overlap(m, n impl.Turn) float32 {
	a, d, c := partsOfMixture(m)
	b, e, f := partsOfMixture(n)
	product := r.product(c, mirrored(f))
	return r.add(r.add(r.times(a, b), r.times(d, e)), r.add(real(product), real(product)))
}

func (r *reckoner) mixtureSum(m, n impl.Turn) impl.Turn {
	for i := range 2 {
		for j := range 2 {
			m[i][j] = r.plus(m[i][j], n[i][j])
		}
	}
	return m
}

// mixtures yields n mixtures of one kind. Most of them are none of any spinors.
func (s *sampler) mixtures(n int) []impl.Turn {
	x := s.together(4 * n)
	list := make([]impl.Turn, n)
	for i := range list {
		list[i] = mixtureWith(max(x[4*i], -x[4*i]), max(x[4*i+1], -x[4*i+1]), complex(x[4*i+2], x[4*i+3]))
	}
	return list
}

// density is near the mixture of two spinors with weights that are 1 together, so that what tables
// make of it mostly are mixtures.
func (s *sampler) density() impl.Turn {
	weight := float64(s.next(1001)) / 1000
	var a, d float64
	var c complex128
	for _, w := range []float64{weight, 1 - weight} {
		row := s.turning()[0]
		u, v := complex128(row[0]), complex128(row[1])
		a += w * (real(u)*real(u) + imag(u)*imag(u))
		d += w * (real(v)*real(v) + imag(v)*imag(v))
		c += complex(w, 0) * v * complex(real(u), -imag(u))
	}
	return mixtureWith(float32(a), float32(d), complex64(c))
}

func (s *sampler) anyMixtures(n int) []impl.Turn {
	if s.next(3) > 0 {
		return s.mixtures(n)
	}
	list := make([]impl.Turn, n)
	for i := range list {
		list[i] = s.density()
	}
	return list
}

// fraction yields numbers in 0..1: 0 and 1, their neighbours, those below the normal ones, those of
// few digits, and any others.
func (s *sampler) fraction() float32 {
	one := int64(127 << 23)
	switch s.next(6) {
	case 0:
		return []float32{0, minusZero, 1, at(1), at(one - 1), 0.5, 0.75}[s.next(7)]
	case 1:
		return at(s.next(1 << 23))
	case 2:
		return at(one - 1 - s.next(1<<(1+s.next(24))))
	case 3:
		return float32(s.next(65)) / 64
	}
	return float32(s.next(1<<24)) / (1 << 24)
}

// weights yields n numbers of at least 0, 0 and 1 among them.
func (s *sampler) weights(n int) []float32 {
	list := s.together(n)
	for i, x := range list {
		switch s.next(6) {
		case 0:
			list[i] = 1
		case 1:
			list[i] = s.fraction()
		default:
			list[i] = max(x, -x)
		}
	}
	return list
}
