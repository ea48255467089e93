package tests

import "loop.example/g01214/impl"

// The functions of this file follow chapter 7 of the document entry by entry with the reckoner. Those
// that may end in another way than ErrLimit return a code.

func exchangedInside(p impl.Pair) impl.Pair { return impl.Pair{p[0], p[2], p[1], p[3]} }

func (r *reckoner) sumOf(terms ...complex64) complex64 {
	var sum complex64
	for _, z := range terms {
		sum = r.plus(sum, z)
	}
	return sum
}

func (r *reckoner) tensor(s, t impl.Spinor) impl.Pair {
	var p impl.Pair
	for i := range 2 {
		for j := range 2 {
			p[2*i+j] = r.product(s[i], t[j])
		}
	}
	return p
}

func (r *reckoner) turnedFirst(a impl.Turn, p impl.Pair) impl.Pair {
	var made impl.Pair
	for i := range 2 {
		for j := range 2 {
			made[2*i+j] = r.plus(r.product(a[i][0], p[j]), r.product(a[i][1], p[2+j]))
		}
	}
	return made
}

func (r *reckoner) turnedSecond(a impl.Turn, p impl.Pair) impl.Pair {
	var made impl.Pair
	for i := range 2 {
		for j := range 2 {
			made[2*i+j] = r.plus(r.product(a[j][0], p[2*i]), r.product(a[j][1], p[2*i+1]))
		}
	}
	return made
}

func (r *reckoner) turnedOne(a impl.Turn, p impl.Pair, which int64) impl.Pair {
	if which == 0 {
		return r.turnedFirst(a, p)
	}
	return r.turnedSecond(a, p)
}

func (r *reckoner) controlled(a impl.Turn, p impl.Pair) impl.Pair {
	made := p
	for j := range 2 {
		made[2+j] = r.plus(r.product(a[j][0], p[2]), r.product(a[j][1], p[3]))
	}
	return made
}

func (r *reckoner) innerOfPairs(p, q impl.Pair) complex64 {
	var terms []complex64
	for k := range 4 {
		terms = append(terms, r.product(mirrored(p[k]), q[k]))
	}
	return r.sumOf(terms...)
}

func (r *reckoner) normOfPair(p impl.Pair) float32 {
	first := r.add(r.square(p[0]), r.square(p[1]))
	return r.add(r.add(first, r.square(p[2])), r.square(p[3]))
}

func (r *reckoner) renewedPair(p impl.Pair) (impl.Pair, int64) {
	norm := r.normOfPair(p)
	if !r.failed && norm == 0 {
		return impl.Pair{}, impl.ErrState
	}
	root := r.root(norm)
	for k := range p {
		p[k] = r.parts(p[k], root)
	}
	return ended(r, p)
}

func (r *reckoner) leftOfFirst(p impl.Pair) impl.Turn {
	var left impl.Turn
	for i := range 2 {
		for j := range 2 {
			left[i][j] = r.plus(r.product(p[2*i], mirrored(p[2*j])), r.product(p[2*i+1], mirrored(p[2*j+1])))
		}
	}
	return left
}

func (r *reckoner) leftOfSecond(p impl.Pair) impl.Turn {
	var left impl.Turn
	for i := range 2 {
		for j := range 2 {
			left[i][j] = r.plus(r.product(p[i], mirrored(p[j])), r.product(p[2+i], mirrored(p[2+j])))
		}
	}
	return left
}

func (r *reckoner) leftOver(p impl.Pair, which int64) impl.Turn {
	if which == 0 {
		return r.leftOfFirst(p)
	}
	return r.leftOfSecond(p)
}

func (r *reckoner) tangle(p impl.Pair) float32 {
	first, second := r.product(p[0], p[3]), r.product(p[1], p[2])
	difference := complex(r.less(real(first), real(second)), r.less(imag(first), imag(second)))
	return r.root(r.square(r.scaled(difference, 2)))
}

func (r *reckoner) weightsFor(c float32) []float32 {
	root := r.root(max(r.less(1, r.times(c, c)), 0))
	return []float32{r.over(r.add(1, root), 2), r.over(r.less(1, root), 2)}
}

func bellPairFor(k int64) impl.Pair {
	h := complex(at(rootExact(0.5)), 0)
	return []impl.Pair{{h, 0, 0, h}, {h, 0, 0, -h}, {0, h, h, 0}, {0, h, -h, 0}}[k]
}

func (r *reckoner) bellPartsOf(p impl.Pair) []complex64 {
	var parts []complex64
	for k := range int64(4) {
		parts = append(parts, r.innerOfPairs(bellPairFor(k), p))
	}
	return parts
}

func (r *reckoner) exchanged(p impl.Pair, k int64) impl.Pair {
	numbers := halvedExactly()[k]
	q := exchangedInside(p)
	var made impl.Pair
	for m := range 4 {
		turned := complex(imag(q[m]), -real(q[m]))
		made[m] = r.plus(r.scaled(p[m], numbers[0]), r.scaled(turned, numbers[1]))
	}
	return made
}

func (r *reckoner) measured(p impl.Pair, which, outcome int64) (impl.Pair, float32, int64) {
	for i := range int64(2) {
		for j := range int64(2) {
			if which == 0 && i != outcome || which == 1 && j != outcome {
				p[2*i+j] = 0
			}
		}
	}
	chance := r.normOfPair(p)
	renewed, code := r.renewedPair(p)
	if code != impl.ErrNone {
		return impl.Pair{}, 0, code
	}
	return renewed, chance, code
}

func (r *reckoner) sent(s impl.Spinor, p impl.Pair, k int64) impl.Spinor {
	bell := bellPairFor(k)
	var made impl.Spinor
	for c := range 2 {
		var terms []complex64
		for a := range 2 {
			for b := range 2 {
				factor := r.product(mirrored(bell[2*a+b]), s[a])
				terms = append(terms, r.product(factor, p[2*b+c]))
			}
		}
		made[c] = r.sumOf(terms...)
	}
	return made
}

func (s *sampler) pairs(n int) []impl.Pair {
	rows := s.spinors(2 * n)
	list := make([]impl.Pair, n)
	for i := range list {
		list[i] = impl.Pair{rows[2*i][0], rows[2*i][1], rows[2*i+1][0], rows[2*i+1][1]}
	}
	return list
}

// whole has parts that are whole numbers in -limit..limit.
func (s *sampler) whole(limit int64) complex64 {
	return complex(float32(s.next(2*limit+1)-limit), float32(s.next(2*limit+1)-limit))
}

func (s *sampler) wholeTable(limit int64) impl.Turn {
	return impl.Turn{{s.whole(limit), s.whole(limit)}, {s.whole(limit), s.whole(limit)}}
}

func (s *sampler) wholePair(limit int64) impl.Pair {
	return impl.Pair{s.whole(limit), s.whole(limit), s.whole(limit), s.whole(limit)}
}
