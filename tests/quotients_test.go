package tests

import (
	"testing"

	"loop.example/g01214/impl"
)

func TestImageOfPointRefusesWhatIsInvalid(t *testing.T) {
	for _, a := range badTables() {
		for _, p := range []impl.Point{{}, far, {At: greatest}, badPoints()[0]} {
			image, code := impl.ImageOfPoint(a, p)
			wantNone(t, "ImageOfPoint", image, code, impl.ErrInvalid)
		}
	}
	for _, p := range badPoints() {
		for _, a := range []impl.Turn{{}, unit, tableWith(0, greatest, greatest)} {
			image, code := impl.ImageOfPoint(a, p)
			wantNone(t, "ImageOfPoint", image, code, impl.ErrInvalid)
		}
	}
}

func TestImageOfPoint(t *testing.T) {
	turned, moved := impl.Turn{{0, 1}, {1, 0}}, impl.Turn{{1, 0}, {3, 1}}
	none := complex(power(-76), 0)
	cases := []struct {
		a       impl.Turn
		p, want impl.Point
	}{
		{turned, impl.Point{At: 2}, impl.Point{At: 0.5}},
		{turned, impl.Point{}, far},
		{turned, far, impl.Point{}},
		{turned, impl.Point{At: complex(0, power(-75))}, far},
		{moved, impl.Point{At: complex(2, -1)}, impl.Point{At: complex(5, -1)}},
		{moved, far, far},
		{moved, impl.Point{At: complex(at(1), 0)}, impl.Point{At: 3}},
		{impl.Turn{{1, 0}, {0, i64}}, impl.Point{At: complex(1, 2)}, impl.Point{At: complex(-2, 1)}},
		{impl.Turn{{1, 2}, {3, 4}}, impl.Point{At: i64}, impl.Point{At: complex(float32(2.2), float32(-0.4))}},
		{impl.Turn{{1, 2}, {3, 4}}, far, impl.Point{At: 2}},
		{impl.Turn{{1, 1}, {0, 1}}, impl.Point{At: -1}, far},
		{impl.Turn{{none, 0}, {0, 1}}, impl.Point{At: 1}, far},
		{impl.Turn{{0, 0}, {1, 0}}, impl.Point{}, far},
		{impl.Turn{{0, 0}, {1, 0}}, impl.Point{At: 7}, far},
		{impl.Turn{{1, 0}, {0, 0}}, impl.Point{At: greatest}, impl.Point{}},
		{impl.Turn{{1, 0}, {0, 0.5}}, impl.Point{At: complex(at(1), -at(3))}, impl.Point{At: complex(0, -at(2))}},
	}
	for _, c := range cases {
		p, code := impl.ImageOfPoint(c.a, c.p)
		wantValue(t, "ImageOfPoint", p, code, c.want)
	}
}

func TestImageOfPointErrors(t *testing.T) {
	none, big, most := complex(power(-76), 0), complex(power(64), 0), complex64(greatest)
	type pairing struct {
		a impl.Turn
		p impl.Point
	}
	for _, c := range []pairing{
		{impl.Turn{}, impl.Point{}}, {impl.Turn{}, far}, {impl.Turn{}, impl.Point{At: most}},
		{impl.Turn{{1, 0}, {0, 0}}, far}, {impl.Turn{{0, 1}, {0, 1}}, impl.Point{}}, {impl.Turn{{1, 1}, {1, 1}}, impl.Point{At: -1}},
		{impl.Turn{{none, 0}, {0, none}}, impl.Point{At: 1}}, {impl.Turn{{0, none}, {0, i64 * none}}, far},
		{impl.Turn{{0, 1}, {0, 1}}, impl.Point{At: complex(at(1), at(2))}},
	} {
		p, code := impl.ImageOfPoint(c.a, c.p)
		wantNone(t, "ImageOfPoint", p, code, impl.ErrState)
	}
	for _, c := range []pairing{
		{impl.Turn{{most, most}, {0, 0}}, impl.Point{At: 1}}, {impl.Turn{{1, 0}, {0, 2}}, impl.Point{At: most}},
		{impl.Turn{{0, 0}, {most, most}}, impl.Point{At: 1}},
		{impl.Turn{{big, 0}, {0, big}}, impl.Point{At: 1}}, {impl.Turn{{0, 0}, {0, big}}, far}, {impl.Turn{{0, 1}, {1, 0}}, impl.Point{At: big}},
		{impl.Turn{{0.5, 0}, {0, 1}}, impl.Point{At: most}}, {impl.Turn{{2, 0}, {0, 1}}, impl.Point{At: most}},
	} {
		p, code := impl.ImageOfPoint(c.a, c.p)
		wantNone(t, "ImageOfPoint", p, code, impl.ErrLimit)
	}
}

func TestImageOfPointExactly(t *testing.T) {
	s := &sampler{state: 71}
	found := 0
	for range samples {
		a, r := s.anyTables(1)[0], &reckoner{}
		p := s.points(1)[0]
		spinor := r.image(a, spinorFor(p))
		want, wantCode := impl.Point{}, int64(impl.ErrLimit)
		if !r.failed {
			want, wantCode = r.pointFor(spinor)
		}
		image, code := impl.ImageOfPoint(a, p)
		wantOutcome(t, "ImageOfPoint", image, code, want, wantCode)
		if wantCode == impl.ErrNone && !want.Far && want.At != 0 {
			found++
		}
	}
	if found < samples/4 {
		t.Errorf("only %d of %d images say something", found, samples)
	}
}

// Promise 12, for chapters 3 and 4: images under the unit change nothing.
func TestTheUnitChangesNoPoint(t *testing.T) {
	s := &sampler{state: 72}
	list := goodPoints()
	for range samples / 4 {
		list = append(list, s.points(4)...)
	}
	for _, p := range list {
		image, code := impl.ImageOfPoint(unit, p)
		wantValue(t, "ImageOfPoint", image, code, p)
		for _, a := range []impl.Turn{negative(unit), {{i64, 0}, {0, i64}}} {
			image, code = impl.ImageOfPoint(a, p)
			wantValue(t, "ImageOfPoint", image, code, p)
		}
	}
	// The unit as chapter 3 makes it.
	made, code := impl.PowerOfTurn(impl.Turn{{1, 2}, {3, 4}}, 0)
	wantValue(t, "PowerOfTurn", made, code, unit)
	for _, p := range goodPoints() {
		image, code := impl.ImageOfPoint(made, p)
		wantValue(t, "ImageOfPoint", image, code, p)
	}
}

func TestBracketOfRefusesWhatIsNoSpinor(t *testing.T) {
	for _, bad := range badSpinors() {
		for _, other := range []impl.Spinor{{}, {1, i64}, {greatest, greatest}, bad} {
			for _, pair := range [][2]impl.Spinor{{bad, other}, {other, bad}} {
				z, code := impl.BracketOf(pair[0], pair[1])
				wantNone(t, "BracketOf", z, code, impl.ErrInvalid)
			}
		}
	}
}

func TestBracketOf(t *testing.T) {
	low, most := complex(power(-75), 0), complex64(greatest)
	cases := []struct {
		s, t impl.Spinor
		want complex64
	}{
		{impl.Spinor{1, 2}, impl.Spinor{1, 5}, 3},
		{impl.Spinor{2, 3}, impl.Spinor{5, 11}, 7},
		{impl.Spinor{i64, complex(1, 1)}, impl.Spinor{2, complex(1, -1)}, complex(-1, -1)},
		{impl.Spinor{1, i64}, impl.Spinor{1, i64}, 0},
		{impl.Spinor{}, impl.Spinor{most, -most}, 0},
		{impl.Spinor{0, 1}, impl.Spinor{1, 9}, -1},
		{impl.Spinor{1, 9}, impl.Spinor{0, 1}, 1},
		// Each product is rounded before the difference.
		{impl.Spinor{4097, 4096}, impl.Spinor{4098, 4097}, 0},
		{impl.Spinor{low, low}, impl.Spinor{-low, low}, 0},
		{impl.Spinor{1, 1}, impl.Spinor{complex(at(2), -at(1)), complex(at(1), at(1))}, complex(-at(1), at(2))},
		{impl.Spinor{most, complex(power(102), 0)}, impl.Spinor{-1, 1}, most},
	}
	for _, c := range cases {
		z, code := impl.BracketOf(c.s, c.t)
		wantValue(t, "BracketOf", z, code, c.want)
		z, code = impl.BracketOf(c.t, c.s)
		wantValue(t, "BracketOf", z, code, -c.want)
	}
	big := complex(power(64), 0)
	for _, c := range [][2]impl.Spinor{
		{{big, 0}, {0, big}}, {{big, 0}, {0, -i64 * big}}, {{big, big}, {big, big}},
		{{1, -most}, {1, most}}, {{most, complex(power(103), 0)}, {-1, 1}}, {{i64, i64}, {-most, most}},
	} {
		for _, pair := range [][2]impl.Spinor{c, {c[1], c[0]}} {
			z, code := impl.BracketOf(pair[0], pair[1])
			wantNone(t, "BracketOf", z, code, impl.ErrLimit)
		}
	}
}

func TestBracketOfExactly(t *testing.T) {
	s := &sampler{state: 73}
	for range samples {
		v, r := s.spinors(2), &reckoner{}
		want := r.bracket(v[0], v[1])
		z, code := impl.BracketOf(v[0], v[1])
		wantReckoned(t, r, "BracketOf", z, code, want)
		z, code = impl.BracketOf(v[1], v[0])
		wantReckoned(t, r, "BracketOf", z, code, -want)
	}
}

func TestCrossQuotientRefusesWhatIsNoPoint(t *testing.T) {
	for _, bad := range badPoints() {
		for _, other := range []impl.Point{{}, far, {At: greatest}, bad} {
			for place := range 4 {
				four := [4]impl.Point{other, other, other, other}
				four[place] = bad
				p, code := impl.CrossQuotient(four[0], four[1], four[2], four[3])
				wantNone(t, "CrossQuotient", p, code, impl.ErrInvalid)
			}
		}
	}
}

func TestCrossQuotient(t *testing.T) {
	a, b, c, d := impl.Point{At: 2}, impl.Point{At: 3}, impl.Point{At: 5}, impl.Point{At: 9}
	one, most := impl.Point{At: 1}, impl.Point{At: complex(greatest, -greatest)}
	low, edge := impl.Point{At: complex(power(-76), 0)}, impl.Point{At: complex(0, power(64))}
	cases := [][5]impl.Point{
		{a, b, c, d, {At: 9.0 / 7}},
		{{}, one, {At: i64}, {At: complex(2, 1)}, {At: complex(0.4, -0.2)}},
		// The far one in each place.
		{far, a, b, c, {At: 3}},
		{a, far, b, c, {At: 1.0 / 3}},
		{a, b, far, c, {At: 2.0 / 3}},
		{a, b, c, far, {At: 1.5}},
		{a, b, {}, far, {At: 2.0 / 3}},
		{{}, one, {At: i64}, far, {At: complex(0.5, -0.5)}},
		{far, far, a, b, one},
		{a, b, far, far, one},
		{far, a, far, b, {}},
		{a, far, b, far, {}},
		{far, a, b, far, far},
		{a, far, far, b, far},
		{far, {}, {Far: true, At: minusPair}, {At: minusPair}, {}},
		// Equal points.
		{a, b, a, c, {}},
		{a, b, c, b, {}},
		{a, b, c, a, far},
		{a, b, b, c, far},
		{a, a, b, c, one},
		{a, b, c, c, one},
		{a, b, a, b, {}},
		{a, b, b, a, far},
		// The divisor is not 0, but its square is.
		{{}, one, a, low, far},
		// The divisor is 1, so that the square of what is divided is not found.
		{{}, far, edge, one, edge},
		{{}, far, most, one, most},
	}
	for _, c := range cases {
		p, code := impl.CrossQuotient(c[0], c[1], c[2], c[3])
		wantValue(t, "CrossQuotient", p, code, c[4])
	}
}

func TestCrossQuotientErrors(t *testing.T) {
	a, b, one := impl.Point{At: 2}, impl.Point{At: 3}, impl.Point{At: 1}
	low, edge := impl.Point{At: complex(power(-76), 0)}, impl.Point{At: complex(power(64), 0)}
	most, least := impl.Point{At: greatest}, impl.Point{At: -greatest}
	state := [][4]impl.Point{
		{a, b, a, a}, {a, b, b, b}, {a, a, a, b}, {a, a, b, a}, {a, a, a, a}, {far, far, far, far},
		{far, a, far, far}, {a, far, far, far}, {far, far, far, a}, {far, far, a, far}, {{}, {At: minusPair}, {}, one},
		// What is divided and the divisor, or one of them, are not 0, but their squares are.
		{{}, one, low, low}, {{}, low, one, low}, {{}, low, low, one},
	}
	for _, c := range state {
		p, code := impl.CrossQuotient(c[0], c[1], c[2], c[3])
		wantNone(t, "CrossQuotient", p, code, impl.ErrState)
	}
	limit := [][4]impl.Point{
		// A bracket is no number, although the one that it is multiplied by is 0.
		{least, a, most, a}, {a, least, a, most}, {least, a, a, most}, {a, least, most, a},
		// The product of two brackets.
		{{}, edge, edge, {}}, {{}, edge, {}, edge},
		// The square of the divisor, and that of what is divided.
		{{}, far, one, edge}, {{}, far, {}, edge}, {{}, far, edge, {}}, {{}, far, edge, low},
		// The product for the quotient, and the quotient.
		{{}, far, {At: complex(power(100), 0)}, {At: complex(power(40), 0)}}, {{}, far, {At: complex(power(127), 0)}, {At: 0.25}},
	}
	for _, c := range limit {
		p, code := impl.CrossQuotient(c[0], c[1], c[2], c[3])
		wantNone(t, "CrossQuotient", p, code, impl.ErrLimit)
	}
}

func TestCrossQuotientExactly(t *testing.T) {
	s := &sampler{state: 74}
	codes := map[int64]int{}
	for range samples {
		p, r := s.points(4), &reckoner{}
		want, wantCode := r.cross(p[0], p[1], p[2], p[3])
		quotient, code := impl.CrossQuotient(p[0], p[1], p[2], p[3])
		wantOutcome(t, "CrossQuotient", quotient, code, want, wantCode)
		codes[wantCode]++
	}
	for _, code := range []int64{impl.ErrNone, impl.ErrState, impl.ErrLimit} {
		if codes[code] < samples/100 {
			t.Errorf("the code %d comes up only %d times", code, codes[code])
		}
	}
}
