package tests

import (
	"testing"

	"loop.example/g01214/impl"
)

func TestInnerOf(t *testing.T) {
	cases := []struct {
		s, t impl.Spinor
		want complex64
	}{
		{impl.Spinor{1, i64}, impl.Spinor{1, i64}, 2},
		{impl.Spinor{i64, 0}, impl.Spinor{1, 0}, -i64},
		{impl.Spinor{1, 0}, impl.Spinor{i64, 0}, i64},
		{impl.Spinor{0, i64}, impl.Spinor{0, 1}, -i64},
		{impl.Spinor{0, 1}, impl.Spinor{0, i64}, i64},
		{impl.Spinor{1, 0}, impl.Spinor{0, 1}, 0},
		{impl.Spinor{complex(1, 2), complex(-1, 3)}, impl.Spinor{complex(3, 1), complex(2, 2)}, complex(9, -13)},
		{impl.Spinor{minusPair, 1}, impl.Spinor{greatest, complex(0, minusZero)}, 0},
		// 4097 times 4097 is rounded to 4096 times 4098 before the two are added.
		{impl.Spinor{4097, 4096}, impl.Spinor{4097, -4098}, 0},
		{impl.Spinor{complex(0, 4097), 4096}, impl.Spinor{complex(0, 4097), -4098}, 0},
		// Both products are rounded to 0, although their sum would not be.
		{impl.Spinor{complex(power(-75), 0), complex(power(-75), 0)}, impl.Spinor{complex(power(-75), 0), complex(power(-75), 0)}, 0},
		{impl.Spinor{complex(power(-75), power(-75)), 0}, impl.Spinor{complex(power(-75), power(-75)), 0}, complex(power(-149), 0)},
	}
	for _, c := range cases {
		inner, code := impl.InnerOf(c.s, c.t)
		wantValue(t, "InnerOf", inner, code, c.want)
	}
}

func TestInnerOfAtTheLimit(t *testing.T) {
	most, half := complex(power(64), 0), complex(power(63), 0)
	cases := [][2]impl.Spinor{
		{{most, 0}, {most, 0}},
		{{0, most}, {0, most}},
		{{most, 0}, {i64 * most, 0}},
		{{0, i64 * most}, {0, most}},
		{{most, most}, {most, -most}},
		{{most, most}, {i64 * most, -i64 * most}},
		{{most, half}, {half, most}},
		{{most, half}, {i64 * half, i64 * most}},
		{{-most, half}, {half, -most}},
	}
	for _, c := range cases {
		inner, code := impl.InnerOf(c[0], c[1])
		wantNone(t, "InnerOf", inner, code, impl.ErrLimit)
		transition, code := impl.TransitionOf(c[0], c[1])
		wantNone(t, "TransitionOf", transition, code, impl.ErrLimit)
	}
	inner, code := impl.InnerOf(impl.Spinor{most, half}, impl.Spinor{half, -most})
	wantValue(t, "InnerOf", inner, code, 0)
	inner, code = impl.InnerOf(impl.Spinor{1, 1}, impl.Spinor{greatest, complex(power(102), 0)})
	wantValue(t, "InnerOf", inner, code, greatest)
	inner, code = impl.InnerOf(impl.Spinor{1, 1}, impl.Spinor{greatest, complex(power(103), 0)})
	wantNone(t, "InnerOf", inner, code, impl.ErrLimit)
}

func TestTransitionOf(t *testing.T) {
	cases := []struct {
		s, t impl.Spinor
		want float32
	}{
		{impl.Spinor{1, i64}, impl.Spinor{1, i64}, 4},
		{impl.Spinor{1, 0}, impl.Spinor{0, 1}, 0},
		{impl.Spinor{1, 0}, impl.Spinor{complex(3, 4), 7}, 25},
		{impl.Spinor{i64, 0}, impl.Spinor{complex(3, 4), 7}, 25},
		{impl.Spinor{1, 1}, impl.Spinor{1, -1}, 0},
		{impl.Spinor{1, 0}, impl.Spinor{complex(power(-75), 0), 1}, 0},
		{impl.Spinor{1, 0}, impl.Spinor{complex(power(-75), power(-75)), 1}, power(-149)},
		{impl.Spinor{1, 0}, impl.Spinor{complex(power(63), 0), 1}, power(126)},
	}
	for _, c := range cases {
		x, code := impl.TransitionOf(c.s, c.t)
		wantValue(t, "TransitionOf", x, code, c.want)
	}
	// The inner product is a number, but not its square.
	for _, z := range []complex64{complex(power(64), 0), complex(0, -power(64)), complex(1.5*power(63), 1.5*power(63))} {
		x, code := impl.TransitionOf(impl.Spinor{1, 0}, impl.Spinor{z, 0})
		wantNone(t, "TransitionOf", x, code, impl.ErrLimit)
	}
}

func TestInnerProductsExactly(t *testing.T) {
	s := &sampler{state: 24}
	for range samples {
		a, r := s.spinors(2), &reckoner{}
		want := r.inner(a[0], a[1])
		inner, code := impl.InnerOf(a[0], a[1])
		wantReckoned(t, r, "InnerOf", inner, code, want)
		wantSquare := r.square(want)
		transition, code := impl.TransitionOf(a[0], a[1])
		wantReckoned(t, r, "TransitionOf", transition, code, wantSquare)
	}
}

// Promise 2: inner products the other way round are conjugates.
func TestInnerProductsTheOtherWayRound(t *testing.T) {
	s := &sampler{state: 25}
	for range samples {
		a := s.spinors(2)
		inner, code := impl.InnerOf(a[0], a[1])
		turned, codeTurned := impl.InnerOf(a[1], a[0])
		if turned != mirrored(inner) || codeTurned != code {
			t.Errorf("of %v: %v, %d and %v, %d", a, inner, code, turned, codeTurned)
		}
	}
}

// Promise 2: the inner product of a spinor and its opposite is 0.
func TestInnerProductsWithOpposites(t *testing.T) {
	s := &sampler{state: 26}
	found := 0
	list := append(s.spinors(samples), goodSpinors()...)
	for range samples / 10 {
		list = append(list, s.spinors(10)...)
	}
	for _, v := range list {
		opposite, code := impl.OppositeOf(v)
		wantValue(t, "OppositeOf", opposite, code, impl.Spinor{-mirrored(v[1]), mirrored(v[0])})
		inner, code := impl.InnerOf(v, opposite)
		if inner != 0 || code != impl.ErrNone && code != impl.ErrLimit {
			t.Errorf("of %v and its opposite: %v, %d", v, inner, code)
		}
		if code == impl.ErrNone {
			found++
		}
	}
	if found < samples {
		t.Errorf("only %d of %d inner products are numbers", found, len(list))
	}
}

func TestOppositeOf(t *testing.T) {
	cases := [][2]impl.Spinor{
		{{}, {}},
		{{1, 0}, {0, 1}},
		{{0, 1}, {-1, 0}},
		{{1, i64}, {i64, 1}},
		{{complex(1, 2), complex(3, 4)}, {complex(-3, 4), complex(1, -2)}},
		{{complex(greatest, -greatest), complex(at(1), minusZero)}, {complex(-at(1), 0), complex(greatest, greatest)}},
	}
	for _, c := range cases {
		s, code := impl.OppositeOf(c[0])
		wantValue(t, "OppositeOf", s, code, c[1])
		twice, code := impl.OppositeOf(s)
		wantValue(t, "OppositeOf", twice, code, impl.Spinor{-c[0][0], -c[0][1]})
	}
}

func TestNormSquareOf(t *testing.T) {
	cases := []struct {
		s    impl.Spinor
		want float32
	}{
		{impl.Spinor{}, 0},
		{impl.Spinor{complex(minusZero, 0), complex(0, minusZero)}, 0},
		{impl.Spinor{1, i64}, 2},
		{impl.Spinor{complex(1, -2), complex(-3, 4)}, 30},
		{impl.Spinor{4097, 1}, 1<<24 + 1<<13},
		{impl.Spinor{1, complex(0, 4097)}, 1<<24 + 1<<13},
		// Each square is rounded before the two are added.
		{impl.Spinor{4097, 4097}, 1<<25 + 1<<14},
		{impl.Spinor{complex(power(-75), 0), complex(0, power(-75))}, 0},
		{impl.Spinor{complex(power(-75), power(-75)), complex(0, power(-75))}, power(-149)},
		{impl.Spinor{complex(power(63), 0), complex(0, power(63))}, power(127)},
	}
	for _, c := range cases {
		x, code := impl.NormSquareOf(c.s)
		wantValue(t, "NormSquareOf", x, code, c.want)
	}
}

func TestNormsAtTheLimit(t *testing.T) {
	z := complex(1.5*power(63), 0)
	for _, s := range []impl.Spinor{{z, z}, {z, i64 * z}, {complex(power(64), 0), 0}, {0, complex(0, power(64))}, {1, complex(-power(64), 1)}, {greatest, greatest}} {
		x, code := impl.NormSquareOf(s)
		wantNone(t, "NormSquareOf", x, code, impl.ErrLimit)
		r, code := impl.RenewSpinor(s)
		wantNone(t, "RenewSpinor", r, code, impl.ErrLimit)
	}
}

func TestRenewSpinor(t *testing.T) {
	low := at(0x3f3504f3)
	cases := [][2]impl.Spinor{
		{{3, complex(0, 4)}, {complex(float32(0.6), 0), complex(0, float32(0.8))}},
		{{1, 0}, {1, 0}},
		{{0, complex(0, -power(63))}, {0, -i64}},
		{{complex(1, 1), complex(-1, -1)}, {complex(0.5, 0.5), complex(-0.5, -0.5)}},
		{{2, minusPair}, {1, 0}},
		{{1, 1}, {complex(low, 0), complex(low, 0)}},
		// The norm square is rounded to the least positive number, so that a part becomes greater than 1.
		{{complex(power(-75)*1.5, 0), 0}, {complex(at(0x3f87c3b7), 0), 0}},
		{{complex(power(-75), power(-75)), 0}, {complex(low, low), 0}},
	}
	for _, c := range cases {
		s, code := impl.RenewSpinor(c[0])
		wantValue(t, "RenewSpinor", s, code, c[1])
	}
}

func TestRenewSpinorOfNormZero(t *testing.T) {
	tiny := complex(power(-75), 0)
	for _, s := range []impl.Spinor{{}, {complex(minusZero, 0), minusPair}, {tiny, tiny}, {i64 * tiny, -tiny}, {complex(at(1), 0), 0}, {0, complex(0, -at(1<<23))}} {
		r, code := impl.RenewSpinor(s)
		wantNone(t, "RenewSpinor", r, code, impl.ErrState)
	}
}

func TestNormsExactly(t *testing.T) {
	s := &sampler{state: 27}
	for range samples {
		v, r := s.spinors(1)[0], &reckoner{}
		square := r.normSquare(v)
		x, code := impl.NormSquareOf(v)
		wantReckoned(t, r, "NormSquareOf", x, code, square)
		renewed, code := impl.RenewSpinor(v)
		if !r.failed && square == 0 {
			wantNone(t, "RenewSpinor", renewed, code, impl.ErrState)
			continue
		}
		norm := r.root(square)
		want := impl.Spinor{r.parts(v[0], norm), r.parts(v[1], norm)}
		wantReckoned(t, r, "RenewSpinor", renewed, code, want)
	}
}
