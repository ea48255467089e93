package tests

import (
	"slices"
	"testing"

	"loop.example/g01214/impl"
)

func TestDriftOfPrecession(t *testing.T) {
	cases := []struct {
		b    impl.Vector
		h    float32
		want []float32
	}{
		{alongZ, 2, []float32{0, 0}},
		{alongX, -2, make([]float32, 300)},
		{impl.Vector{}, 1, make([]float32, 300)},
		{impl.Vector{1, 2, 3}, 0, []float32{0, 0, 0}},
		{impl.Vector{1, 1, 1}, 2, make([]float32, 6)},
		// As q is 0, each further factor makes the square of the first entry, 1 at first, 1 + 2^-22
		// times as great, and the determinant, too.
		{impl.Vector{0, 0, power(63)}, power(-74), []float32{power(-22), power(-21), 3 * power(-22)}},
		{impl.Vector{0, -power(63), 0}, power(-74), []float32{power(-22), power(-21), 3 * power(-22)}},
		{impl.Vector{power(63), 0, 0}, -power(-74), []float32{power(-22), power(-21), 3 * power(-22)}},
	}
	for _, c := range cases {
		for n := 1; n <= len(c.want); n += 1 + n/5 {
			drifts, code := impl.DriftOfPrecession(c.b, c.h, int64(n))
			wantList(t, "DriftOfPrecession", drifts, code, c.want[:n])
		}
	}
}

// The first drift is that of the step; the drifts of more powers begin with those of fewer ones.
func TestDriftsOfPowersBeginAlike(t *testing.T) {
	b, h := impl.Vector{0.3, -0.7, 1.9}, float32(0.37)
	step, _ := impl.StepOfField(b, h)
	first, code := impl.DriftOfTurn(step)
	all, codeAll := impl.DriftOfPrecession(b, h, 300)
	if code != impl.ErrNone || codeAll != impl.ErrNone || len(all) != 300 || all[0] != first || slices.Max(all) == 0 {
		t.Fatalf("DriftOfPrecession = %v, %d", all, codeAll)
	}
	for n := int64(1); n <= 300; n++ {
		drifts, code := impl.DriftOfPrecession(b, h, n)
		wantList(t, "DriftOfPrecession", drifts, code, all[:n])
	}
}

func TestDriftOfPrecessionExactly(t *testing.T) {
	s := &sampler{state: 177}
	count, found, failed := samples/10, 0, 0
	for range count {
		b, h := s.field()
		n, r := min(s.count()+1, 300), &reckoner{}
		want, wantCode := ended(r, r.driftsOfPowers(b, h, n))
		drifts, code := impl.DriftOfPrecession(b, h, n)
		wantListOutcome(t, "DriftOfPrecession", drifts, code, want, wantCode)
		if code == impl.ErrNone && slices.Max(drifts) != 0 {
			found++
		}
		if code != impl.ErrNone {
			failed++
		}
	}
	if found < count/3 || failed < count/60 {
		t.Errorf("only %d of %d lists say something, %d are not found", found, count, failed)
	}
}
