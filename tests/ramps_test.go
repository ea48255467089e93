package tests

import (
	"slices"
	"testing"

	"loop.example/g01214/impl"
)

func TestRampFields(t *testing.T) {
	cases := []struct {
		a, b impl.Vector
		n    int64
		want []impl.Vector
	}{
		{impl.Vector{}, impl.Vector{4, 0, 8}, 2, []impl.Vector{{1, 0, 2}, {3, 0, 6}}},
		{impl.Vector{4, 0, 8}, impl.Vector{}, 2, []impl.Vector{{3, 0, 6}, {1, 0, 2}}},
		{impl.Vector{}, impl.Vector{4, 2, -6}, 1, []impl.Vector{{2, 1, -3}}},
		{impl.Vector{-8, 8, 1}, impl.Vector{8, -8, 1}, 4, []impl.Vector{{-6, 6, 1}, {-2, 2, 1}, {2, -2, 1}, {6, -6, 1}}},
		{impl.Vector{1, 1, 1}, impl.Vector{7, 7, 7}, 3, []impl.Vector{{2, 2, 2}, {4, 4, 4}, {6, 6, 6}}},
		{impl.Vector{minusZero, 0, minusZero}, impl.Vector{}, 2, []impl.Vector{{}, {}}},
		// The difference is rounded, and 1 is lost in it; then sums are; then quotients and products.
		{impl.Vector{-1, 0, 0}, impl.Vector{1 << 24, 0, 0}, 1, []impl.Vector{{1<<23 - 1, 0, 0}}},
		{impl.Vector{0, 1 << 24, 0}, impl.Vector{0, 1<<24 + 4, 0}, 2, []impl.Vector{{0, 1 << 24, 0}, {0, 1<<24 + 4, 0}}},
		{impl.Vector{}, impl.Vector{1, 3, 5}, 5, []impl.Vector{{0.1, 0.3, 0.5}, {0.3, 3 * at(0x3e99999a), 1.5}, {0.5, 1.5, 2.5}, {0.7, 2.1, 3.5}, {0.9, 3 * at(0x3f666666), 4.5}}},
		// Numbers below the normal ones, and a product that is 0.
		{impl.Vector{}, impl.Vector{at(1), at(3), -at(5)}, 1, []impl.Vector{{0, at(2), -at(2)}}},
		{impl.Vector{at(1), -at(1), at(1 << 23)}, impl.Vector{at(3), at(1), at(1<<23 - 2)}, 2, []impl.Vector{{at(1), -at(1), at(1 << 23)}, {at(3), at(1), at(1<<23 - 2)}}},
		{impl.Vector{greatest, -greatest, 0}, impl.Vector{0, 0, greatest}, 1, []impl.Vector{{0.5 * greatest, -0.5 * greatest, 0.5 * greatest}}},
		{impl.Vector{-power(102), power(102), 0}, impl.Vector{greatest, -greatest, 0}, 1, []impl.Vector{{power(127) - power(104), power(104) - power(127), 0}}},
	}
	for _, c := range cases {
		fields, code := impl.RampFields(c.a, c.b, c.n)
		wantList(t, "RampFields", fields, code, c.want)
	}
}

func TestRampFieldsOfMostSteps(t *testing.T) {
	for _, n := range []int64{256, 299, 300} {
		fields, code := impl.RampFields(impl.Vector{}, impl.Vector{float32(2 * n), float32(-4 * n), 1}, n)
		want := new(reckoner).rampFields(impl.Vector{}, impl.Vector{float32(2 * n), float32(-4 * n), 1}, n)
		wantList(t, "RampFields", fields, code, want)
		for i, field := range fields {
			if x := float32(2*i + 1); n == 256 && field != (impl.Vector{x, -2 * x, x / 512}) {
				t.Errorf("the field %d of %d is %v", i, n, field)
			}
		}
	}
}

// Only differences may be no numbers.
func TestRampFieldsAtTheLimit(t *testing.T) {
	for i := range 3 {
		for _, sign := range []float32{1, -1} {
			for _, x := range []float32{-greatest, -power(103), -power(127)} {
				a, b := vectorWith(i, sign*x, 1), vectorWith(i, sign*greatest, -1)
				for _, n := range []int64{1, 2, 300} {
					for _, ends := range [][2]impl.Vector{{a, b}, {b, a}} {
						fields, code := impl.RampFields(ends[0], ends[1], n)
						wantNoList(t, "RampFields", fields, code, impl.ErrLimit)
						// The fields are found first, whatever the spinor, and even with an h of 0.
						for _, h := range []float32{0, 1, at(1)} {
							s, code := impl.RunRamp(ends[0], ends[1], h, n, impl.Spinor{})
							wantNone(t, "RunRamp", s, code, impl.ErrLimit)
						}
					}
				}
			}
		}
	}
}

func TestRampFieldsExactly(t *testing.T) {
	s := &sampler{state: 171}
	count, found, failed := samples/4, 0, 0
	for range count {
		a, b := s.vectors()
		if s.next(20) == 0 {
			a, b = impl.Vector{1, s.great(), 2}, impl.Vector{s.great(), s.great(), 3}
		}
		n, r := min(s.count()+1, 300), &reckoner{}
		want, wantCode := ended(r, r.rampFields(a, b, n))
		fields, code := impl.RampFields(a, b, n)
		wantListOutcome(t, "RampFields", fields, code, want, wantCode)
		if code == impl.ErrNone && fields[0] != a {
			found++
		}
		if code != impl.ErrNone {
			failed++
		}
	}
	if found < count/2 || failed < count/100 {
		t.Errorf("only %d of %d ramps say something, %d are not finite", found, count, failed)
	}
}

// Promise 17: ramps between equal fields are those fields.
func TestRampsBetweenEqualFields(t *testing.T) {
	s := &sampler{state: 172}
	list := []impl.Vector{{}, {1, 2, 3}, {greatest, -greatest, greatest}, {at(1), -at(1), at(1<<23 - 1)}, {minusZero, at(1 << 23), -1}}
	for range samples / 6 {
		v, w := s.vectors()
		list = append(list, v, w)
	}
	for _, b := range list {
		n := min(s.count()+1, 300)
		fields, code := impl.RampFields(b, b, n)
		wantList(t, "RampFields", fields, code, slices.Repeat([]impl.Vector{b}, int(n)))
	}
	for n := int64(1); n <= 300; n++ {
		fields, code := impl.RampFields(list[2], list[2], n)
		wantList(t, "RampFields", fields, code, slices.Repeat([]impl.Vector{{greatest, -greatest, greatest}}, int(n)))
	}
}

// Promise 17: so their steps are those of precession.
func TestRunsOfRampsBetweenEqualFields(t *testing.T) {
	s := &sampler{state: 173}
	count, found := samples/2, 0
	for range count {
		b, h := s.field()
		n, spinor := min(s.count()+1, 300), s.start()
		want, wantCode := impl.Precess(b, h, n, spinor)
		got, code := impl.RunRamp(b, b, h, n, spinor)
		wantOutcome(t, "RunRamp", got, code, want, wantCode)
		if code == impl.ErrNone && got != spinor {
			found++
		}
	}
	if found < count/2 {
		t.Errorf("only %d of %d runs say something", found, count)
	}
}

func TestRunRamp(t *testing.T) {
	cases := []struct {
		a, b impl.Vector
		h    float32
		n    int64
		s    impl.Spinor
		want impl.Spinor
	}{
		{alongY, alongY, 2, 2, up, impl.Spinor{-1, 0}},
		// The fields are (0, 1, 0), and then (1, 0, 0); or the other way.
		{impl.Vector{-0.5, 1.5, 0}, impl.Vector{1.5, -0.5, 0}, 2, 2, up, impl.Spinor{-i64, 0}},
		{impl.Vector{1.5, -0.5, 0}, impl.Vector{-0.5, 1.5, 0}, 2, 2, up, impl.Spinor{i64, 0}},
		{impl.Vector{-0.5, 1.5, 0}, impl.Vector{1.5, -0.5, 0}, -2, 2, up, impl.Spinor{-i64, 0}},
		// The field in the middle is (0, 0, 1).
		{impl.Vector{-3, 5, 1}, impl.Vector{3, -5, 1}, 2, 1, impl.Spinor{3, 4i}, impl.Spinor{-3i, -4}},
		// The fields are (0, 0, -1), 0, and (0, 0, 1).
		{impl.Vector{0, 0, -1.5}, impl.Vector{0, 0, 1.5}, 2, 3, impl.Spinor{3, 4i}, impl.Spinor{3, 4i}},
		{impl.Vector{1, 2, 3}, impl.Vector{4, 5, 6}, 0, 300, impl.Spinor{greatest, 4i}, impl.Spinor{greatest, 4i}},
		{impl.Vector{1, 2, 3}, impl.Vector{4, 5, 6}, 1, 300, impl.Spinor{minusPair, minusPair}, impl.Spinor{}},
	}
	for _, c := range cases {
		s, code := impl.RunRamp(c.a, c.b, c.h, c.n, c.s)
		wantValue(t, "RunRamp", s, code, c.want)
	}
}

func TestRunRampAtTheLimit(t *testing.T) {
	far := impl.Vector{power(65), 0, 0}
	cases := []struct {
		a, b impl.Vector
		h    float32
		n    int64
		s    impl.Spinor
	}{
		// A step is not finite: all of them, or the last one, or the first one.
		{endless, endless, 0, 1, up}, {alongX, alongY, tooFar, 300, up}, {impl.Vector{}, impl.Vector{}, -tooFar, 1, impl.Spinor{}},
		{impl.Vector{}, far, at(1), 2, impl.Spinor{}}, {far, impl.Vector{}, 0, 2, up}, {impl.Vector{}, far, 0, 300, impl.Spinor{}},
		// What a step makes is not finite: the first one, or the second one.
		{alongY, alongY, 1, 1, impl.Spinor{greatest, greatest}}, {alongY, alongX, 1, 300, impl.Spinor{greatest, greatest}},
		{alongY, alongY, slowly, 2, goingOut}, {alongY, alongY, slowly, 13, goingOut},
	}
	for _, c := range cases {
		s, code := impl.RunRamp(c.a, c.b, c.h, c.n, c.s)
		wantNone(t, "RunRamp", s, code, impl.ErrLimit)
	}
	s, code := impl.RunRamp(impl.Vector{}, far, 0, 1, up)
	wantNone(t, "RunRamp", s, code, impl.ErrLimit)
	s, code = impl.RunRamp(impl.Vector{}, impl.Vector{power(64), 0, 0}, 0, 1, up)
	wantValue(t, "RunRamp", s, code, up)
	s, code = impl.RunRamp(alongY, alongY, slowly, 1, goingOut)
	wantValue(t, "RunRamp", s, code, new(reckoner).ranRamp(alongY, alongY, slowly, 1, goingOut))
}

func TestRunRampExactly(t *testing.T) {
	s := &sampler{state: 174}
	count, found, failed := samples/10, 0, 0
	for range count {
		ends, h := s.fields(2)
		n, spinor, r := min(s.count()+1, 300), s.start(), &reckoner{}
		want := r.ranRamp(ends[0], ends[1], h, n, spinor)
		got, code := impl.RunRamp(ends[0], ends[1], h, n, spinor)
		wantReckoned(t, r, "RunRamp", got, code, want)
		if code == impl.ErrNone && got != spinor {
			found++
		}
		if code != impl.ErrNone {
			failed++
		}
	}
	if found < count/2 || failed < count/20 {
		t.Errorf("only %d of %d runs say something, %d are not finite", found, count, failed)
	}
}
