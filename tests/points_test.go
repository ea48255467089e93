package tests

import (
	"testing"

	"loop.example/g01214/impl"
)

func TestIsPoint(t *testing.T) {
	for _, p := range goodPoints() {
		if !impl.IsPoint(p) {
			t.Errorf("IsPoint(%v) is false", p)
		}
	}
	for _, p := range badPoints() {
		if impl.IsPoint(p) {
			t.Errorf("IsPoint(%v) is true", p)
		}
	}
}

func TestPointsRefuseWhatIsNoPoint(t *testing.T) {
	for _, p := range badPoints() {
		s, code := impl.SpinorOfPoint(p)
		wantNone(t, "SpinorOfPoint", s, code, impl.ErrInvalid)
		opposite, code := impl.OppositePoint(p)
		wantNone(t, "OppositePoint", opposite, code, impl.ErrInvalid)
		v, code := impl.VectorOfPoint(p)
		wantNone(t, "VectorOfPoint", v, code, impl.ErrInvalid)
	}
	for _, s := range badSpinors() {
		p, code := impl.PointOfSpinor(s)
		wantNone(t, "PointOfSpinor", p, code, impl.ErrInvalid)
	}
}

func TestSpinorOfPoint(t *testing.T) {
	z := complex(at(1), -greatest)
	cases := []struct {
		p    impl.Point
		want impl.Spinor
	}{
		{far, impl.Spinor{0, 1}},
		{impl.Point{Far: true, At: minusPair}, impl.Spinor{0, 1}},
		{impl.Point{}, impl.Spinor{1, 0}},
		{impl.Point{At: minusPair}, impl.Spinor{1, 0}},
		{impl.Point{At: 2}, impl.Spinor{1, 2}},
		{impl.Point{At: z}, impl.Spinor{1, z}},
	}
	for _, c := range cases {
		s, code := impl.SpinorOfPoint(c.p)
		wantValue(t, "SpinorOfPoint", s, code, c.want)
	}
}

func TestPointOfSpinor(t *testing.T) {
	none, low := complex(power(-76), 0), complex(1.5*power(-75), 0)
	most := complex64(greatest)
	cases := []struct {
		s    impl.Spinor
		want impl.Point
	}{
		{impl.Spinor{1, 2}, impl.Point{At: 2}},
		{impl.Spinor{2, i64}, impl.Point{At: complex(0, 0.5)}},
		{impl.Spinor{i64, 1}, impl.Point{At: -i64}},
		{impl.Spinor{complex(1, 2), complex(5, 5)}, impl.Point{At: complex(3, -1)}},
		{impl.Spinor{-4, minusPair}, impl.Point{}},
		{impl.Spinor{0, 1}, far},
		{impl.Spinor{minusPair, complex(0, -1)}, far},
		// The square of v is the least positive number, that of u is 0.
		{impl.Spinor{none, low}, far},
		{impl.Spinor{-i64 * none, complex(power(63), -power(62))}, far},
		{impl.Spinor{complex(at(1), at(1<<23-1)), 1}, far},
		{impl.Spinor{complex(power(-75), 0), 1}, far},
		// The square of u is the least positive number.
		{impl.Spinor{low, 0}, impl.Point{}},
		{impl.Spinor{low, complex(power(-75), 0)}, impl.Point{At: 1}},
		{impl.Spinor{low, complex(0, power(-76))}, impl.Point{}},
		{impl.Spinor{complex(power(-75), power(-75)), 1}, impl.Point{At: complex(power(74), -power(74))}},
		// The square of v is not found.
		{impl.Spinor{1, complex(greatest, -greatest)}, impl.Point{At: complex(greatest, -greatest)}},
		{impl.Spinor{complex(1, 1), most}, impl.Point{At: complex(greatest/2, -greatest/2)}},
		{impl.Spinor{complex(power(63), 0), complex(at(1), 0)}, impl.Point{}},
		{impl.Spinor{2, complex(at(1), at(3))}, impl.Point{At: complex(0, at(2))}},
	}
	for _, c := range cases {
		p, code := impl.PointOfSpinor(c.s)
		wantValue(t, "PointOfSpinor", p, code, c.want)
	}
}

func TestPointOfSpinorErrors(t *testing.T) {
	none, big, most := complex(power(-76), 0), complex(power(64), 0), complex64(greatest)
	edge := complex(power(-75), 0)
	for _, s := range []impl.Spinor{{}, {minusPair, minusPair}, {none, none}, {i64 * none, -none}, {0, edge}, {edge, 0}, {edge, i64 * edge}, {complex(at(1), 0), complex(0, at(1<<23-1))}} {
		p, code := impl.PointOfSpinor(s)
		wantNone(t, "PointOfSpinor", p, code, impl.ErrState)
	}
	for _, s := range []impl.Spinor{
		{big, 0}, {i64 * big, 1}, {complex(1.5*power(63), 1.5*power(63)), 1}, {most, most},
		{0, big}, {none, -i64 * big}, {edge, most}, {minusPair, complex(1.5*power(63), 1.5*power(63))},
		{2, most}, {complex(1, 1), complex(greatest, greatest)}, {0.5, most}, {complex(power(-60), 0), complex(power(70), 0)},
	} {
		p, code := impl.PointOfSpinor(s)
		wantNone(t, "PointOfSpinor", p, code, impl.ErrLimit)
	}
}

func TestPointOfSpinorExactly(t *testing.T) {
	s := &sampler{state: 61}
	codes := map[int64]int{}
	for range samples {
		v, r := s.spinors(1)[0], &reckoner{}
		want, wantCode := r.pointFor(v)
		p, code := impl.PointOfSpinor(v)
		wantOutcome(t, "PointOfSpinor", p, code, want, wantCode)
		codes[wantCode]++
	}
	for _, code := range []int64{impl.ErrNone, impl.ErrState, impl.ErrLimit} {
		if codes[code] < samples/100 {
			t.Errorf("the code %d comes up only %d times", code, codes[code])
		}
	}
}

func TestOppositePoint(t *testing.T) {
	third := at(0x3eaaaaab)
	cases := [][2]impl.Point{
		{{At: 2}, {At: -0.5}},
		{{At: i64}, {At: -i64}},
		{{At: complex(1, 1)}, {At: complex(-0.5, -0.5)}},
		{{At: complex(0, -4)}, {At: complex(0, 0.25)}},
		{{At: 3}, {At: complex(-third, 0)}},
		{{}, far},
		{{At: minusPair}, far},
		{far, {}},
		{{Far: true, At: minusPair}, {}},
		{{At: complex(at(1), 0)}, far},
		{{At: complex(at(1<<23-1), -at(1<<23-1))}, far},
		{{At: complex(0, -power(-76))}, far},
		{{At: complex(power(-75), 0)}, far},
		{{At: complex(1.5*power(-75), 0)}, {At: complex(-1.5*power(74), 0)}},
		{{At: complex(power(-75), -power(-75))}, {At: complex(-power(74), power(74))}},
		{{At: complex(power(63), 0)}, {At: complex(-power(-63), 0)}},
	}
	for _, c := range cases {
		p, code := impl.OppositePoint(c[0])
		wantValue(t, "OppositePoint", p, code, c[1])
	}
	for _, z := range []complex64{complex(power(64), 0), complex(0, -power(64)), greatest, complex(1.5*power(63), 1.5*power(63)), complex(greatest, -greatest)} {
		p, code := impl.OppositePoint(impl.Point{At: z})
		wantNone(t, "OppositePoint", p, code, impl.ErrLimit)
	}
}

func TestOppositePointExactly(t *testing.T) {
	s := &sampler{state: 62}
	for range samples / 2 {
		for _, p := range s.points(2) {
			r := &reckoner{}
			want, wantCode := r.opposite(p)
			opposite, code := impl.OppositePoint(p)
			wantOutcome(t, "OppositePoint", opposite, code, want, wantCode)
		}
	}
}

// Promise 13, for chapters 2 and 4: spinors of points have them as points.
func TestSpinorsOfPointsHaveThemAsPoints(t *testing.T) {
	s := &sampler{state: 63}
	list := goodPoints()
	for range samples / 4 {
		list = append(list, s.points(4)...)
	}
	for _, p := range list {
		spinor, code := impl.SpinorOfPoint(p)
		wantValue(t, "SpinorOfPoint", spinor, code, spinorFor(p))
		back, code := impl.PointOfSpinor(spinor)
		wantValue(t, "PointOfSpinor", back, code, p)
	}
}

// Promise 13, with spinors times numbers with which nothing is lost.
func TestScaledSpinorsOfPointsHaveThemAsPoints(t *testing.T) {
	s := &sampler{state: 64}
	for range samples / 4 {
		p := impl.Point{At: complex(float32(s.next(2001)-1000), float32(s.next(2001)-1000))}
		if s.next(20) == 0 {
			p = far
		}
		spinor, code := impl.SpinorOfPoint(p)
		wantValue(t, "SpinorOfPoint", spinor, code, spinorFor(p))
		for _, z := range []complex64{-1, i64, 4, complex(0, -0.5), complex(2, 2)} {
			scaled, code := impl.ScaleSpinor(z, spinor)
			wantValue(t, "ScaleSpinor", scaled, code, impl.Spinor{z * spinor[0], z * spinor[1]})
			back, code := impl.PointOfSpinor(scaled)
			wantValue(t, "PointOfSpinor", back, code, p)
		}
	}
}
