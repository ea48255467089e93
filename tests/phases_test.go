package tests

import (
	"testing"

	"loop.example/g01214/impl"
)

func TestFreePhase(t *testing.T) {
	big := complex64(complex(greatest, -greatest))
	low := at(0x3f3504f3)
	cases := []struct {
		s, want impl.Spinor
		phase   complex64
	}{
		{impl.Spinor{complex(0, 2), 1}, impl.Spinor{2, -i64}, i64},
		{impl.Spinor{-3, complex(1, 2)}, impl.Spinor{3, complex(-1, -2)}, -1},
		{impl.Spinor{4, 0}, impl.Spinor{4, 0}, 1},
		{impl.Spinor{0, complex(0, -2)}, impl.Spinor{0, 2}, -i64},
		{impl.Spinor{complex(minusZero, minusZero), -7}, impl.Spinor{0, 7}, -1},
		{impl.Spinor{complex(minusZero, 0), complex(3, 4)}, impl.Spinor{0, 5}, complex(0.6, 0.8)},
		{impl.Spinor{complex(0, minusZero), complex(0, 5)}, impl.Spinor{0, 5}, i64},
		{impl.Spinor{complex(0, -1), complex(0, 1)}, impl.Spinor{1, -1}, -i64},
		{impl.Spinor{complex(3, 4), 10}, impl.Spinor{5, complex(6, -8)}, complex(0.6, 0.8)},
		// The square of the part that does not lead is not found.
		{impl.Spinor{1, big}, impl.Spinor{1, big}, 1},
		{impl.Spinor{-i64, complex(greatest, greatest)}, impl.Spinor{1, complex(-greatest, greatest)}, -i64},
		{impl.Spinor{complex(1, 1), complex(at(1), 0)}, impl.Spinor{complex(at(0x3fb504f3), 0), complex(at(1), -at(1))}, complex(low, low)},
		{impl.Spinor{complex(power(-75), power(-75)), 1}, impl.Spinor{complex(at(0x3f3504f3-74<<23), 0), complex(low, -low)}, complex(low, low)},
		{impl.Spinor{0, complex(power(63), power(63))}, impl.Spinor{0, complex(2*low*power(63), 0)}, complex(low, low)},
	}
	for _, c := range cases {
		s, phase, code := impl.FreePhase(c.s)
		wantValue(t, "FreePhase", s, code, c.want)
		wantValue(t, "the phase", phase, code, c.phase)
	}
}

func wantNotFreed(t *testing.T, s impl.Spinor, want int64) {
	t.Helper()
	got, phase, code := impl.FreePhase(s)
	wantNone(t, "FreePhase", got, code, want)
	wantNone(t, "the phase", phase, code, want)
}

func TestFreePhaseErrors(t *testing.T) {
	tiny := complex(power(-75), 0)
	for _, s := range []impl.Spinor{{}, {minusPair, complex(0, minusZero)}, {tiny, 1}, {i64 * tiny, greatest}, {complex(at(1), 0), 0}, {0, complex(0, -at(1))}, {0, tiny}} {
		wantNotFreed(t, s, impl.ErrState)
	}
	big := complex(power(64), 0)
	for _, s := range []impl.Spinor{{big, 0}, {-i64 * big, 1}, {0, big}, {minusPair, i64 * big}, {greatest, greatest}} {
		wantNotFreed(t, s, impl.ErrLimit)
	}
	// The absolute value is a number, but the product with the phase is none: in its real part, in
	// its imaginary part, and by a phase that is greater than 1 because of roundings.
	most := complex64(complex(greatest, greatest))
	for _, s := range []impl.Spinor{{complex(1, 1), most}, {complex(1, -1), most}, {complex(power(-75)*1.5, 0), greatest}, {complex(power(-75)*1.5, 0), complex(0, -greatest)}} {
		wantNotFreed(t, s, impl.ErrLimit)
	}
}

func TestFreePhaseExactly(t *testing.T) {
	s := &sampler{state: 28}
	for range samples {
		v, r := s.spinors(1)[0], &reckoner{}
		if s.next(8) == 0 {
			v[0] = 0
		}
		lead := v[0]
		if lead == 0 {
			lead = v[1]
		}
		size := r.root(r.square(lead))
		if !r.failed && size == 0 {
			wantNotFreed(t, v, impl.ErrState)
			continue
		}
		wantPhase := r.parts(lead, size)
		want := impl.Spinor{0, complex(size, 0)}
		if v[0] != 0 {
			want = impl.Spinor{complex(size, 0), r.product(mirrored(wantPhase), v[1])}
		}
		got, phase, code := impl.FreePhase(v)
		wantReckoned(t, r, "FreePhase", got, code, want)
		wantReckoned(t, r, "the phase", phase, code, wantPhase)
	}
}

func TestVectorOf(t *testing.T) {
	cases := []struct {
		s    impl.Spinor
		want impl.Vector
	}{
		{impl.Spinor{}, impl.Vector{}},
		{impl.Spinor{1, i64}, impl.Vector{0, 2, 0}},
		{impl.Spinor{i64, 1}, impl.Vector{0, -2, 0}},
		{impl.Spinor{1, 1}, impl.Vector{2, 0, 0}},
		{impl.Spinor{1, -1}, impl.Vector{-2, 0, 0}},
		{impl.Spinor{1, 0}, impl.Vector{0, 0, 1}},
		{impl.Spinor{minusPair, i64}, impl.Vector{0, 0, -1}},
		{impl.Spinor{complex(1, 2), complex(3, -1)}, impl.Vector{2, -14, -5}},
		// The product is rounded to 0 before it is added to itself.
		{impl.Spinor{complex(power(-75), 0), complex(power(-75), 0)}, impl.Vector{}},
		{impl.Spinor{complex(power(-75)*1.5, 0), complex(power(-75), 0)}, impl.Vector{power(-148), 0, power(-149)}},
		{impl.Spinor{4097, 4096}, impl.Vector{2 * 4097 * 4096, 0, 1 << 13}},
		{impl.Spinor{complex(power(63), 0), complex(0, power(62))}, impl.Vector{0, power(126), 3 * power(124)}},
	}
	for _, c := range cases {
		v, code := impl.VectorOf(c.s)
		wantValue(t, "VectorOf", v, code, c.want)
	}
}

func TestVectorOfAtTheLimit(t *testing.T) {
	z, big := complex(1.5*power(63), 0), complex(power(64), 0)
	for _, s := range []impl.Spinor{{z, z}, {z, -z}, {z, i64 * z}, {i64 * z, z}, {big, 0}, {0, big}, {i64 * big, big}, {big, 1}, {greatest, greatest}} {
		v, code := impl.VectorOf(s)
		wantNone(t, "VectorOf", v, code, impl.ErrLimit)
	}
	v, code := impl.VectorOf(impl.Spinor{z, 0})
	wantValue(t, "VectorOf", v, code, impl.Vector{0, 0, 2.25 * power(126)})
}

func TestVectorOfExactly(t *testing.T) {
	s := &sampler{state: 29}
	for range samples {
		v, r := s.spinors(1)[0], &reckoner{}
		product := r.product(mirrored(v[0]), v[1])
		twice := r.plus(product, product)
		want := impl.Vector{real(twice), imag(twice), r.add(r.square(v[0]), -r.square(v[1]))}
		got, code := impl.VectorOf(v)
		wantReckoned(t, r, "VectorOf", got, code, want)
	}
}
