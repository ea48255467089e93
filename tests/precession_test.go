package tests

import (
	"slices"
	"testing"

	"loop.example/g01214/impl"
)

// goingOut stays finite when it is turned slowly about the second axis once, but not twice; turned
// 13 times it would be finite again.
const slowly = 0.25

var goingOut = impl.Spinor{complex(0.98*greatest, 0), complex(0.69*greatest, 0)}

func TestPrecess(t *testing.T) {
	most := impl.Spinor{complex(greatest, -greatest), complex(greatest, at(1))}
	cases := []struct {
		b    impl.Vector
		h    float32
		n    int64
		s    impl.Spinor
		want impl.Spinor
	}{
		{alongY, 2, 2, up, impl.Spinor{-1, 0}},
		{alongY, -2, 1, up, impl.Spinor{0, -1}},
		{alongX, 2, 1, up, impl.Spinor{0, -i64}},
		{alongX, 2, 3, impl.Spinor{2, i64}, impl.Spinor{-1, 2i}},
		{alongZ, 2, 1, impl.Spinor{3, 4i}, impl.Spinor{-3i, -4}},
		{alongZ, 2, 300, impl.Spinor{3, 4i}, impl.Spinor{3, 4i}},
		{alongY, 1, 1, up, impl.Spinor{complex(float32(0.6), 0), complex(float32(0.8), 0)}},
		{alongY, 1, 1, down, impl.Spinor{complex(float32(-0.8), 0), complex(float32(0.6), 0)}},
		{alongY, 1, 1, impl.Spinor{5, 5}, impl.Spinor{-1, 7}},
		{impl.Vector{}, 1, 300, impl.Spinor{3, 4i}, impl.Spinor{3, 4i}},
		{impl.Vector{1, 2, 3}, 0, 300, most, most},
		{impl.Vector{1, 2, 3}, minusZero, 7, impl.Spinor{minusPair, minusPair}, impl.Spinor{}},
		{alongY, 1, 300, impl.Spinor{}, impl.Spinor{}},
		{alongY, 1, 0, impl.Spinor{3, 4i}, impl.Spinor{3, 4i}},
		{alongY, 1, 0, most, most},
		{alongX, 2, 299, most, impl.Spinor{complex(-at(1), greatest), complex(greatest, greatest)}},
		{alongY, 1, 0, goingOut, goingOut},
		// What comes is below the normal numbers.
		{alongY, 1, 1, impl.Spinor{complex(at(1), 0), 0}, impl.Spinor{complex(at(1), 0), complex(at(1), 0)}},
		{alongY, 1, 2, impl.Spinor{complex(at(1), 0), 0}, impl.Spinor{0, complex(at(2), 0)}},
		{impl.Vector{0, 0, at(1)}, 1, 300, impl.Spinor{1, 0}, impl.Spinor{complex(1, -at(300)), 0}},
	}
	for _, c := range cases {
		s, code := impl.Precess(c.b, c.h, c.n, c.s)
		wantValue(t, "Precess", s, code, c.want)
	}
}

func TestPrecessAtTheLimit(t *testing.T) {
	most := impl.Spinor{greatest, greatest}
	for _, n := range []int64{1, 2, 300} {
		s, code := impl.Precess(alongY, 1, n, most)
		wantNone(t, "Precess", s, code, impl.ErrLimit)
		vectors, code := impl.PrecessVectors(alongY, 1, n, most)
		wantNoList(t, "PrecessVectors", vectors, code, impl.ErrLimit)
	}
	s, code := impl.Precess(alongY, slowly, 1, goingOut)
	wantOutcome(t, "Precess", s, code, new(reckoner).precession(alongY, slowly, 1, goingOut)[1], impl.ErrNone)
	for _, n := range []int64{2, 3, 13, 300} {
		s, code = impl.Precess(alongY, slowly, n, goingOut)
		wantNone(t, "Precess", s, code, impl.ErrLimit)
	}
}

func TestPrecessVectors(t *testing.T) {
	cases := []struct {
		b    impl.Vector
		h    float32
		n    int64
		s    impl.Spinor
		want []impl.Vector
	}{
		{alongY, 2, 1, up, []impl.Vector{{0, 0, 1}, {0, 0, -1}}},
		{alongZ, 2, 2, impl.Spinor{1, 1}, []impl.Vector{{2, 0, 0}, {-2, 0, 0}, {2, 0, 0}}},
		{alongX, 2, 2, impl.Spinor{1, i64}, []impl.Vector{{0, 2, 0}, {0, -2, 0}, {0, 2, 0}}},
		{alongX, -2, 1, impl.Spinor{1, 3}, []impl.Vector{{6, 0, -8}, {6, 0, 8}}},
		{alongY, 1, 1, impl.Spinor{5, 5}, []impl.Vector{{50, 0, 0}, {-14, 0, -48}}},
		{alongY, 1, 0, impl.Spinor{1, 1}, []impl.Vector{{2, 0, 0}}},
		{alongY, 1, 0, impl.Spinor{}, []impl.Vector{{}}},
		{impl.Vector{}, 1, 3, impl.Spinor{2, i64}, []impl.Vector{{0, 4, 3}, {0, 4, 3}, {0, 4, 3}, {0, 4, 3}}},
		{alongY, 2, 1, impl.Spinor{two(-75), two(-75)}, []impl.Vector{{}, {}}},
		{alongZ, 2, 1, impl.Spinor{two(63), 0}, []impl.Vector{{0, 0, power(126)}, {0, 0, power(126)}}},
	}
	for _, c := range cases {
		vectors, code := impl.PrecessVectors(c.b, c.h, c.n, c.s)
		wantList(t, "PrecessVectors", vectors, code, c.want)
	}
	for _, n := range []int64{0, 1, 299, 300} {
		vectors, code := impl.PrecessVectors(impl.Vector{}, 1, n, up)
		wantList(t, "PrecessVectors", vectors, code, slices.Repeat([]impl.Vector{alongZ}, int(n)+1))
	}
}

// The spinors are finite, but a vector is not: that of the first one, or only a later one.
func TestPrecessVectorsAtTheLimit(t *testing.T) {
	for _, s := range []impl.Spinor{{two(64), 0}, {0, two(64)}, {complex(1.5*power(63), 0), complex(1.5*power(63), 0)}} {
		for _, n := range []int64{0, 1, 300} {
			vectors, code := impl.PrecessVectors(alongZ, 2, n, s)
			wantNoList(t, "PrecessVectors", vectors, code, impl.ErrLimit)
			_, code = impl.Precess(alongZ, 2, n, s)
			if code != impl.ErrNone {
				t.Errorf("Precess of %v has the code %d", s, code)
			}
		}
	}
	much, h := float32(1.25*power(63)), float32(0.0625)
	s := impl.Spinor{complex(much, 0), complex(much, much)}
	vectors, code := impl.PrecessVectors(alongZ, h, 2, s)
	wantList(t, "PrecessVectors", vectors, code, new(reckoner).vectorsOfSpinors(new(reckoner).precession(alongZ, h, 2, s)))
	for _, n := range []int64{3, 4, 300} {
		vectors, code = impl.PrecessVectors(alongZ, h, n, s)
		wantNoList(t, "PrecessVectors", vectors, code, impl.ErrLimit)
	}
}

func TestPrecessionExactly(t *testing.T) {
	s := &sampler{state: 167}
	count, found, failed := samples/5, 0, 0
	for range count {
		b, h := s.field()
		n, spinor := s.count(), s.start()
		r := &reckoner{}
		run := r.precession(b, h, n, spinor)
		last, code := impl.Precess(b, h, n, spinor)
		wantReckoned(t, r, "Precess", last, code, run[n])
		want, wantCode := ended(r, r.vectorsOfSpinors(run))
		vectors, codeVectors := impl.PrecessVectors(b, h, n, spinor)
		wantListOutcome(t, "PrecessVectors", vectors, codeVectors, want, wantCode)
		if codeVectors == impl.ErrNone && n > 0 && vectors[n] != vectors[0] {
			found++
		}
		if code != impl.ErrNone {
			failed++
		}
	}
	if found < count/3 || failed < count/20 {
		t.Errorf("only %d of %d runs say something, %d are not finite", found, count, failed)
	}
}

// Promise 9: runs of steps are continued, that of n and that of m steps are one of n + m steps.
func TestRunsAreContinued(t *testing.T) {
	s := &sampler{state: 168}
	count, found := samples/2, 0
	for range count {
		b, h := s.field()
		n, m, spinor := s.count()/2, s.count()/2, s.start()
		whole, code := impl.Precess(b, h, n+m, spinor)
		first, codeFirst := impl.Precess(b, h, n, spinor)
		if codeFirst != impl.ErrNone {
			wantNone(t, "Precess", whole, code, codeFirst)
			continue
		}
		second, codeSecond := impl.Precess(b, h, m, first)
		if second != whole || codeSecond != code {
			t.Errorf("Precess by %v, %v: %v, %d after %d and %d, but %v, %d", b, h, second, codeSecond, n, m, whole, code)
		}
		if code == impl.ErrNone && n > 0 && m > 0 && whole != first && first != spinor {
			found++
		}
	}
	if found < count/3 {
		t.Errorf("only %d of %d runs say something", found, count)
	}
}

// Promise 9: the vectors of a run of n and of one of m steps are those of one of n + m steps.
func TestVectorsOfRunsAreContinued(t *testing.T) {
	s := &sampler{state: 169}
	count, found := samples/2, 0
	for range count {
		b, h := s.field()
		n, m, spinor := s.count()/2, s.count()/2, s.start()
		whole, code := impl.PrecessVectors(b, h, n+m, spinor)
		if code != impl.ErrNone {
			continue
		}
		first, code := impl.PrecessVectors(b, h, n, spinor)
		wantList(t, "PrecessVectors", first, code, whole[:n+1])
		between, _ := impl.Precess(b, h, n, spinor)
		second, code := impl.PrecessVectors(b, h, m, between)
		wantList(t, "PrecessVectors", second, code, whole[n:])
		if n > 0 && m > 0 && whole[0] != whole[n+m] {
			found++
		}
	}
	if found < count/3 {
		t.Errorf("only %d of %d runs say something", found, count)
	}
}

// Promise 9, with runs that are found without the program.
func TestKnownRunsAreContinued(t *testing.T) {
	run := []impl.Spinor{{2, i64}, {1, -2i}, {-2, -i64}, {-1, 2i}}
	for n := range int64(8) {
		for m := range int64(8) {
			s, code := impl.Precess(alongX, 2, m, run[n%4])
			wantValue(t, "Precess", s, code, run[(n+m)%4])
		}
	}
}

// Promise 17: one step is what its table makes.
func TestOneStepIsWhatItsTableMakes(t *testing.T) {
	s := &sampler{state: 170}
	found := 0
	for range samples {
		b, h := s.field()
		spinor := s.start()
		table, code := impl.StepOfField(b, h)
		want := spinor
		if code == impl.ErrNone {
			want, code = impl.ApplyTurn(table, spinor)
		}
		one, codeOne := impl.Precess(b, h, 1, spinor)
		wantOutcome(t, "Precess", one, codeOne, want, code)
		ramp, codeRamp := impl.RunRamp(b, b, h, 1, spinor)
		wantOutcome(t, "RunRamp", ramp, codeRamp, want, code)
		if codeOne == impl.ErrNone && one != spinor {
			found++
		}
	}
	if found < samples/2 {
		t.Errorf("only %d of %d steps say something", found, samples)
	}
}

// Promise 17, with a step that is found without the program.
func TestKnownStepIsWhatItsTableMakes(t *testing.T) {
	s, code := impl.Precess(impl.Vector{1, 1, 1}, 2, 1, impl.Spinor{4, complex(0, 2)})
	wantValue(t, "Precess", s, code, impl.Spinor{complex(-1, -3), complex(1, -3)})
}
