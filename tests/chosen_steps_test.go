package tests

import (
	"testing"

	"loop.example/g01214/impl"
)

func TestErrorOfStep(t *testing.T) {
	cases := []struct {
		b    impl.Vector
		h    float32
		want float32
	}{
		{impl.Vector{}, 1, 0},
		{impl.Vector{}, power(64), 0},
		{impl.Vector{minusZero, 0, 0}, -3, 0},
		{impl.Vector{1, 2, 3}, 0, 0},
		{impl.Vector{power(63), power(63), 0}, minusZero, 0},
		// The parts of the step are -0.6 and 0.8, and its half is a half turn, which makes -1.
		{alongX, 4, 0.8},
		{alongY, 4, 0.8},
		{alongZ, -4, 0.8},
		{impl.Vector{0, -2, 0}, 2, 0.8},
		// The step is a half turn, and its half has 0.6 and 0.8, of which the squares are in one product
		// of complex numbers, or are rounded each.
		{alongZ, -2, 0.28},
		{alongX, 2, 0.28000003},
		{impl.Vector{0, 8, 0}, 0.25, 0.28000003},
		// One of both goes on to -1, the other one to 1.
		{alongZ, power(64), 2},
		{impl.Vector{0, power(63), 0}, 2, 2},
		// Numbers below the normal ones are halved to even places.
		{impl.Vector{power(63), 0, 0}, at(1), power(-86)},
		{impl.Vector{power(63), 0, 0}, at(2), 0},
		{impl.Vector{0, power(63), 0}, -at(3), power(-86)},
		{impl.Vector{0, 0, -power(63)}, at(7), power(-86)},
		{impl.Vector{1, 0, 0}, at(1), at(1)},
	}
	for _, c := range cases {
		x, code := impl.ErrorOfStep(c.b, c.h)
		wantValue(t, "ErrorOfStep", x, code, c.want)
	}
}

func TestErrorOfStepExactly(t *testing.T) {
	s := &sampler{state: 175}
	found, failed := 0, 0
	for range samples / 3 {
		b, h := s.field()
		r := &reckoner{}
		want := r.errorOfStep(b, h)
		x, code := impl.ErrorOfStep(b, h)
		wantReckoned(t, r, "ErrorOfStep", x, code, want)
		if code == impl.ErrNone && x > power(-20) {
			found++
		}
		if code != impl.ErrNone {
			failed++
		}
	}
	if found < samples/12 || failed < samples/150 {
		t.Errorf("only %d of %d errors say something, %d are not found", found, samples/3, failed)
	}
}

// below returns the next lesser number.
func below(x float32) float32 {
	place, _ := impl.PlaceOf(x)
	return at(place - 1)
}

func TestChooseStep(t *testing.T) {
	low := impl.Vector{power(63), 0, 0}
	cases := []struct {
		b          impl.Vector
		h, e, want float32
	}{
		{impl.Vector{}, 1, 0, 1},
		{impl.Vector{}, power(64), minusZero, power(64)},
		{impl.Vector{1, 2, 3}, 0, 0, 0},
		{alongZ, 4, greatest, 4},
		{alongZ, power(64), 2, power(64)},
		// Errors that are equal to e are good enough.
		{alongZ, 4, 1, 4},
		{alongZ, 4, 0.8, 4},
		{alongZ, 4, below(0.8), 2},
		{alongZ, 4, 0.28, 2},
		{alongZ, 4, below(0.28), 1},
		{alongX, -4, 0.8, -4},
		{alongX, -4, below(0.8), -2},
		{impl.Vector{0, 0.5, 0}, 32, 0.8, 8},
		// All of the halvings.
		{alongZ, power(22), 0.8, 4},
		{alongY, -power(22), 0.8, -4},
		{alongZ, power(21), below(0.8), 2},
		{alongZ, power(21), 0.28, 2},
		// Numbers below the normal ones, of which some are not halved exactly.
		{low, at(3), power(-86), at(3)},
		{low, at(3), 0, at(2)},
		{low, at(5), minusZero, at(2)},
		{low, at(1), 0, 0},
		{low, -at(1), at(1), 0},
		{low, at(1), power(-86), at(1)},
		{low, at(2), 0, at(2)},
	}
	for _, c := range cases {
		h, code := impl.ChooseStep(c.b, c.h, c.e)
		wantValue(t, "ChooseStep", h, code, c.want)
	}
}

// No halving is good enough, often only the one behind the last one.
func TestChooseStepFindsNone(t *testing.T) {
	for _, c := range []struct {
		b    impl.Vector
		h, e float32
	}{
		{alongZ, power(22), below(0.8)}, {alongX, -power(22), 0.28}, {alongZ, power(23), 0.8}, {alongZ, power(21), below(0.28)},
		{alongY, power(22), 0}, {alongY, power(64), 1}, {impl.Vector{power(63), 0, 0}, 2, 0.8}, {impl.Vector{0, 1, 1}, power(40), at(1)},
		{alongX, power(22), minusZero},
	} {
		h, code := impl.ChooseStep(c.b, c.h, c.e)
		wantNone(t, "ChooseStep", h, code, impl.ErrNotFound)
	}
}

// ErrRange comes ahead of ErrNotFound and ErrLimit.
func TestChooseStepRefusesDistancesBelow0(t *testing.T) {
	for _, e := range []float32{-1, -at(1), -at(1 << 23), -0.5, -greatest} {
		for _, b := range []impl.Vector{{}, alongZ, endless} {
			for _, h := range []float32{0, 1, -1, power(40), tooFar, at(1)} {
				x, code := impl.ChooseStep(b, h, e)
				wantNone(t, "ChooseStep", x, code, impl.ErrRange)
			}
		}
	}
}

// The first error that is asked is not found, though later ones would be good enough.
func TestChooseStepAtTheLimit(t *testing.T) {
	for _, e := range []float32{0, 1, 2, 3, greatest} {
		for _, c := range []setting{{impl.Vector{}, power(65)}, {impl.Vector{}, -greatest}, {alongX, power(66)}, {impl.Vector{0, power(63), 0}, 4}, {endless, 1}, {endless, 0}} {
			h, code := impl.ChooseStep(c.b, c.h, e)
			wantNone(t, "ChooseStep", h, code, impl.ErrLimit)
		}
	}
	h, code := impl.ChooseStep(impl.Vector{0, power(63), 0}, 2, 2)
	wantValue(t, "ChooseStep", h, code, 2)
}

func TestChooseStepExactly(t *testing.T) {
	s := &sampler{state: 176}
	codes, halved := map[int64]int{}, 0
	for range samples / 50 {
		b, h := s.field()
		if x := h * power(int(s.next(24))); x-x == 0 {
			h = x
		}
		r := &reckoner{}
		errors := r.errorsOfHalvings(b, h)
		distances := []float32{0, minusZero, at(1), power(-24), 2, greatest}
		for _, x := range errors {
			if distances = append(distances, x); x > 0 {
				distances = append(distances, below(x), x/2)
			}
		}
		for _, e := range distances {
			want, wantCode := r.chosen(errors, h, e)
			x, code := impl.ChooseStep(b, h, e)
			wantOutcome(t, "ChooseStep", x, code, want, wantCode)
			codes[code]++
			if code == impl.ErrNone && x != h {
				halved++
			}
		}
	}
	if halved < samples/10 || codes[impl.ErrNotFound] < samples/100 || codes[impl.ErrLimit] < samples/100 {
		t.Errorf("ChooseStep gave the codes %v, and halved %d times", codes, halved)
	}
}
