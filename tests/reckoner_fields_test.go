package tests

import "loop.example/g01214/impl"

// The functions of this file follow chapter 9 of the document with the reckoner. Those that may end
// in another way than ErrLimit return a code.

func (r *reckoner) crossOfVectors(v, w impl.Vector) impl.Vector {
	return impl.Vector{
		r.less(r.times(v[1], w[2]), r.times(v[2], w[1])),
		r.less(r.times(v[2], w[0]), r.times(v[0], w[2])),
		r.less(r.times(v[0], w[1]), r.times(v[1], w[0])),
	}
}

func (r *reckoner) vectorOfSpinor(s impl.Spinor) impl.Vector {
	p := r.product(mirrored(s[0]), s[1])
	return impl.Vector{r.times(2, real(p)), r.times(2, imag(p)), r.less(r.square(s[0]), r.square(s[1]))}
}

func (r *reckoner) energy(b impl.Vector, s impl.Spinor) float32 {
	return r.dot(b, r.vectorOfSpinor(s))
}

// ofParts is the table of parts.
func ofParts(w, x, y, z float32) impl.Turn {
	return impl.Turn{{complex(w, -z), complex(-y, -x)}, {complex(y, -x), complex(w, z)}}
}

func (r *reckoner) step(b impl.Vector, h float32) impl.Turn {
	k := r.over(h, 2)
	q := r.times(r.times(k, k), r.dot(b, b))
	d := r.add(1, q)
	w, f := r.over(r.less(1, q), d), r.over(h, d)
	return ofParts(w, r.times(f, b[0]), r.times(f, b[1]), r.times(f, b[2]))
}

func (r *reckoner) splitStep(b impl.Vector, h float32) impl.Turn {
	k := r.over(h, 2)
	table := r.step(impl.Vector{b[0], 0, 0}, k)
	table = r.turns(table, r.step(impl.Vector{0, b[1], 0}, k))
	table = r.turns(table, r.step(impl.Vector{0, 0, b[2]}, h))
	table = r.turns(table, r.step(impl.Vector{0, b[1], 0}, k))
	return r.turns(table, r.step(impl.Vector{b[0], 0, 0}, k))
}

// precession has s and what it is precessed to, 1 to n times.
func (r *reckoner) precession(b impl.Vector, h float32, n int64, s impl.Spinor) []impl.Spinor {
	step, run := r.step(b, h), []impl.Spinor{s}
	for range n {
		s = r.image(step, s)
		run = append(run, s)
	}
	return run
}

func (r *reckoner) vectorsOfSpinors(list []impl.Spinor) []impl.Vector {
	var vectors []impl.Vector
	for _, s := range list {
		vectors = append(vectors, r.vectorOfSpinor(s))
	}
	return vectors
}

func (r *reckoner) rampFields(a, b impl.Vector, n int64) []impl.Vector {
	var fields []impl.Vector
	for i := range n {
		t := r.over(float32(2*i+1), float32(2*n))
		var field impl.Vector
		for m := range 3 {
			field[m] = r.add(a[m], r.times(r.less(b[m], a[m]), t))
		}
		fields = append(fields, field)
	}
	return fields
}

func (r *reckoner) ranRamp(a, b impl.Vector, h float32, n int64, s impl.Spinor) impl.Spinor {
	for _, field := range r.rampFields(a, b, n) {
		s = r.image(r.step(field, h), s)
	}
	return s
}

func (r *reckoner) errorOfStep(b impl.Vector, h float32) float32 {
	half := r.step(b, r.over(h, 2))
	return r.distance(r.step(b, h), r.turns(half, half))
}

// errorsOfHalvings has the errors of the steps with h, halved 0 to 20 times, up to the first one that
// is not found.
func (r *reckoner) errorsOfHalvings(b impl.Vector, h float32) []float32 {
	var errors []float32
	for range 21 {
		found := r.errorOfStep(b, h)
		if r.failed {
			return errors
		}
		errors, h = append(errors, found), r.over(h, 2)
	}
	return errors
}

// chosen expects what errorsOfHalvings found for h.
func (r *reckoner) chosen(errors []float32, h, e float32) (float32, int64) {
	for _, found := range errors {
		if found <= e {
			return h, impl.ErrNone
		}
		h = new(reckoner).over(h, 2)
	}
	if r.failed {
		return 0, impl.ErrLimit
	}
	return 0, impl.ErrNotFound
}

func (r *reckoner) driftsOfPowers(b impl.Vector, h float32, n int64) []float32 {
	step := r.step(b, h)
	power, drifts := step, []float32{r.drift(step)}
	for range n - 1 {
		power = r.turns(step, power)
		drifts = append(drifts, r.drift(power))
	}
	return drifts
}

func longer(v impl.Vector, x float32) impl.Vector { return impl.Vector{x * v[0], x * v[1], x * v[2]} }

func turnedRound(v impl.Vector) impl.Vector { return impl.Vector{-v[0], -v[1], -v[2]} }

// fields yields n fields and an h: most often such that h times a field is neither great nor small,
// at all powers of two; otherwise any of one kind, or such that q is at the upper end.
func (s *sampler) fields(n int) ([]impl.Vector, float32) {
	list, kind := make([]impl.Vector, n), s.next(8)
	x := s.together(3*n + 1)
	if kind > 0 {
		x = s.nearOne(3*n + 1)
	}
	h := x[3*n]
	for i := range list {
		list[i] = impl.Vector(x[3*i:])
	}
	if kind == 0 {
		return list, h
	}
	exponent := int(s.next(125)) - 62
	other := -exponent - 2 + int(s.next(6))
	if kind == 1 {
		other = 62 - max(exponent, 0) + int(s.next(6))
	}
	for i := range list {
		list[i] = longer(list[i], power(exponent))
	}
	return list, h * power(other)
}

// nearOne yields n numbers in -4..4, most of them with many digits, 0 among them.
func (s *sampler) nearOne(n int) []float32 {
	few, list := s.next(3) == 0, make([]float32, n)
	for i := range list {
		list[i] = s.ofKind(1)
		if few {
			list[i] = float32(s.next(33)) / 8
		}
		if s.next(12) == 0 {
			list[i] = 0
		}
		if s.next(2) == 0 {
			list[i] *= -1
		}
	}
	return list
}

func (s *sampler) field() (impl.Vector, float32) {
	list, h := s.fields(1)
	return list[0], h
}

// great yields a number whose double is not finite.
func (s *sampler) great() float32 {
	return at(impl.MaxPlace-s.next(1<<23)) * float32(1-2*s.next(2))
}

// start yields a spinor to begin with: most often one with a norm near 1, or any, or one that some
// turns make too great.
func (s *sampler) start() impl.Spinor {
	switch s.next(6) {
	case 0:
		return s.spinors(1)[0]
	case 1:
		return impl.Spinor{complex(s.great(), s.great()), complex(s.great(), s.great())}
	}
	return s.corner()
}

// count yields a number of steps, few most often.
func (s *sampler) count() int64 {
	if s.next(40) == 0 {
		return s.next(301)
	}
	return s.next(9)
}
