package tests

import (
	"testing"

	"loop.example/g01214/impl"
)

func TestStepOfField(t *testing.T) {
	three, four, low := float32(0.6), float32(0.8), power(-75)
	cases := []struct {
		b    impl.Vector
		h    float32
		want impl.Turn
	}{
		{alongX, 2, halfX},
		{alongY, 2, halfY},
		{alongZ, 2, halfZ},
		{alongZ, -2, daggered(halfZ)},
		{impl.Vector{0, 0, 2}, 1, halfZ},
		{impl.Vector{0, -4, 0}, 0.5, daggered(halfY)},
		{alongX, 1, ofParts(three, four, 0, 0)},
		{alongX, -1, ofParts(three, -four, 0, 0)},
		{alongX, 4, ofParts(-three, four, 0, 0)},
		{impl.Vector{1, 2, 2}, 2, ofParts(-0.8, 0.2, 0.4, 0.4)},
		{impl.Vector{-1, 2, -2}, -2, ofParts(-0.8, 0.2, -0.4, 0.4)},
		{impl.Vector{1, 1, 1}, 2, ofParts(-0.5, 0.5, 0.5, 0.5)},
		{impl.Vector{}, 1, unit},
		{impl.Vector{minusZero, minusZero, minusZero}, 3, unit},
		{impl.Vector{1, 2, 3}, 0, unit},
		{impl.Vector{1, 2, 3}, minusZero, unit},
		{impl.Vector{power(63), -power(63), power(63)}, 0, unit},
		{impl.Vector{}, power(64), unit},
		// The square of k is 0, and q with it, though k times the product of k and the other one is not.
		{impl.Vector{power(63), 0, 0}, 2 * low, ofParts(1, power(-11), 0, 0)},
		// The inner product is 0, and q with it.
		{impl.Vector{low, low, -low}, power(64), ofParts(1, power(-11), power(-11), -power(-11))},
		{impl.Vector{0, 1.5 * low, 0}, power(64), ofParts(1-power(-22), 0, (1.5-power(-22))*power(-11), 0)},
		// Both are not 0, but q is below the normal numbers.
		{impl.Vector{0, 0, power(-70)}, 2, ofParts(1, 0, 0, power(-69))},
		{impl.Vector{at(1), at(3), -at(1<<23 - 1)}, 1, ofParts(1, at(1), at(3), -at(1<<23-1))},
		{impl.Vector{0.5, 0, 1}, at(3), ofParts(1, at(2), 0, at(3))},
		{impl.Vector{0.5, 0, -1}, at(1), ofParts(1, 0, 0, -at(1))},
		{impl.Vector{1, 1, 0}, -at(1 << 23), ofParts(1, -at(1<<23), -at(1<<23), 0)},
		// q is so great that 1 is lost.
		{alongX, power(64), ofParts(-1, power(-62), 0, 0)},
		{impl.Vector{0, power(63), 0}, 2, ofParts(-1, 0, power(-62), 0)},
		{impl.Vector{0, 0, power(31)}, -power(33), ofParts(-1, 0, 0, -power(-62))},
		// In d, but not in 1 - q, 1 is lost.
		{impl.Vector{0, 4096, 0}, 2, ofParts(power(-24)-1, 0, power(-11), 0)},
		// The inner product is made from the left: 2^24, and twice 1 that is lost.
		{impl.Vector{4096, 1, 1}, 2, ofParts(power(-24)-1, power(-11), power(-23), power(-23))},
	}
	for _, c := range cases {
		table, code := impl.StepOfField(c.b, c.h)
		wantValue(t, "StepOfField", table, code, c.want)
	}
}

// setting is a field with an h.
type setting struct {
	b impl.Vector
	h float32
}

// endlessSettings have no step that is finite.
func endlessSettings() []setting {
	more := 1.5 * power(63)
	// Only the sum of the inner product is not finite.
	list := []setting{{impl.Vector{more, more, 0}, 1}, {impl.Vector{0, more, -more}, 0}}
	for i := range 3 {
		for _, sign := range []float32{1, -1} {
			// The inner product is not finite, even with an h of 0.
			for _, h := range []float32{0, minusZero, 1, at(1), power(-74)} {
				list = append(list, setting{vectorWith(i, sign*power(64), 0), h}, setting{vectorWith(i, greatest, 1), sign * h})
			}
			// The product of k and itself is not finite, even with an inner product of 0.
			for _, b := range []impl.Vector{{}, {minusZero, 0, 0}, vectorWith(i, 1, 0), vectorWith(i, at(1), 0)} {
				list = append(list, setting{b, sign * power(65)}, setting{b, sign * greatest})
			}
			// Only q is not finite.
			list = append(list, setting{vectorWith(i, power(63), 0), sign * 4}, setting{vectorWith(i, 2, 1), sign * power(64)})
			list = append(list, setting{vectorWith(i, sign*power(33), 0), power(32)})
		}
	}
	return list
}

func TestStepsAtTheLimit(t *testing.T) {
	for _, c := range endlessSettings() {
		table, code := impl.StepOfField(c.b, c.h)
		wantNone(t, "StepOfField", table, code, impl.ErrLimit)
		x, code := impl.ErrorOfStep(c.b, c.h)
		wantNone(t, "ErrorOfStep", x, code, impl.ErrLimit)
		x, code = impl.ChooseStep(c.b, c.h, 10)
		wantNone(t, "ChooseStep", x, code, impl.ErrLimit)
		for _, n := range []int64{1, 2, 300} {
			drifts, code := impl.DriftOfPrecession(c.b, c.h, n)
			wantNoList(t, "DriftOfPrecession", drifts, code, impl.ErrLimit)
		}
		// The step is found first, also for no steps at all.
		for _, n := range []int64{0, 1, 300} {
			for _, spinor := range []impl.Spinor{up, {}} {
				s, code := impl.Precess(c.b, c.h, n, spinor)
				wantNone(t, "Precess", s, code, impl.ErrLimit)
				vectors, code := impl.PrecessVectors(c.b, c.h, n, spinor)
				wantNoList(t, "PrecessVectors", vectors, code, impl.ErrLimit)
			}
		}
	}
}

func TestStepOfFieldExactly(t *testing.T) {
	s := &sampler{state: 164}
	found, failed := 0, 0
	for range samples {
		b, h := s.field()
		r := &reckoner{}
		want := r.step(b, h)
		table, code := impl.StepOfField(b, h)
		wantReckoned(t, r, "StepOfField", table, code, want)
		if w := real(table[0][0]); code == impl.ErrNone && w != 1 && w != -1 {
			found++
		}
		if code != impl.ErrNone {
			failed++
		}
	}
	if found < samples/2 || failed < samples/50 {
		t.Errorf("only %d of %d steps say something, %d are not finite", found, samples, failed)
	}
}

// Promise 9: the step with -h is the adjoint of that with h.
func TestStepsTurnedBack(t *testing.T) {
	s := &sampler{state: 165}
	found := 0
	for range samples {
		b, h := s.field()
		there, code := impl.StepOfField(b, h)
		back, other := impl.StepOfField(b, -h)
		if back != daggered(there) || code != other {
			t.Errorf("StepOfField(%v, %v): %v, %d and %v, %d", b, h, there, code, back, other)
		}
		if code == impl.ErrNone && back != there {
			found++
		}
	}
	if found < samples/2 {
		t.Errorf("only %d of %d steps say something", found, samples)
	}
}

// Promise 9, with a step that is found without the program.
func TestKnownStepTurnedBack(t *testing.T) {
	table, code := impl.StepOfField(impl.Vector{1, -2, 2}, -2)
	wantValue(t, "StepOfField", table, code, daggered(ofParts(-0.8, 0.2, -0.4, 0.4)))
}

func TestSplitStep(t *testing.T) {
	minus := impl.Turn{{-1, 0}, {0, -1}}
	cases := []struct {
		b    impl.Vector
		h    float32
		want impl.Turn
	}{
		{alongZ, 2, halfZ},
		{alongZ, -2, daggered(halfZ)},
		{alongZ, 1, ofParts(0.6, 0, 0, 0.8)},
		// Both steps about the first axis, or the second one, are half turns.
		{impl.Vector{2, 0, 0}, 2, minus},
		{impl.Vector{0, 2, 0}, 2, minus},
		{impl.Vector{2, 2, 0}, 2, unit},
		{impl.Vector{2, 0, 1}, 2, halfZ},
		{impl.Vector{0, -2, 1}, 2, halfZ},
		{impl.Vector{2, 2, 1}, 2, halfZ},
		{impl.Vector{2, 2, -1}, -2, halfZ},
		{impl.Vector{}, 1, unit},
		{impl.Vector{1, 2, 3}, 0, unit},
		{impl.Vector{minusZero, 0, minusZero}, minusZero, unit},
		{impl.Vector{}, power(64), unit},
		// k is 0, but h is not.
		{impl.Vector{power(63), power(63), 0.5}, at(1), unit},
		{impl.Vector{0, 0, 1}, at(1), ofParts(1, 0, 0, at(1))},
		{impl.Vector{power(63), 0, power(63)}, at(1), ofParts(1, 0, 0, power(-86))},
		{impl.Vector{1, 1, 0}, at(3), ofParts(1, at(4), at(4), 0)},
		// The three steps are finite, though that of the field is not.
		{impl.Vector{power(63), power(63), 1.5 * power(63)}, 0, unit},
		{impl.Vector{1.5 * power(63), 1.5 * power(63), 0}, 0, unit},
	}
	for _, c := range cases {
		table, code := impl.SplitStep(c.b, c.h)
		wantValue(t, "SplitStep", table, code, c.want)
	}
}

func wantSplit(t *testing.T, b impl.Vector, h float32, want impl.Turn) {
	t.Helper()
	table, code := impl.SplitStep(b, h)
	wantValue(t, "SplitStep", table, code, want)
}

func wantNoSplit(t *testing.T, b impl.Vector, h float32) {
	t.Helper()
	table, code := impl.SplitStep(b, h)
	wantNone(t, "SplitStep", table, code, impl.ErrLimit)
}

func TestSplitStepAtTheLimit(t *testing.T) {
	for i := range 3 {
		for _, sign := range []float32{1, -1} {
			for _, h := range []float32{0, 1, at(1), greatest} {
				wantNoSplit(t, vectorWith(i, sign*power(64), 0), h)
			}
			for _, x := range []float32{0, 1, at(1)} {
				wantNoSplit(t, vectorWith(i, x, 0), sign*power(65))
			}
			// The steps about the first two axes have k, and so reach further.
			b, h := vectorWith(i, sign*power(63), 0), float32(4)
			want := ofParts(1, -sign*power(-61), 0, 0)
			if i == 1 {
				want = ofParts(1, 0, -sign*power(-61), 0)
			}
			if i == 2 {
				h, want = 2, ofParts(-1, 0, 0, sign*power(-62))
			}
			wantSplit(t, b, h, want)
			wantNoSplit(t, b, 2*h)
		}
	}
}

func TestSplitStepExactly(t *testing.T) {
	s := &sampler{state: 166}
	found, failed := 0, 0
	for range samples / 3 {
		b, h := s.field()
		r := &reckoner{}
		want := r.splitStep(b, h)
		table, code := impl.SplitStep(b, h)
		wantReckoned(t, r, "SplitStep", table, code, want)
		if code == impl.ErrNone && table != unit {
			found++
		}
		if code != impl.ErrNone {
			failed++
		}
	}
	if found < samples/6 || failed < samples/150 {
		t.Errorf("only %d of %d split steps say something, %d are not finite", found, samples/3, failed)
	}
}
