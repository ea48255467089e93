package tests

import (
	"testing"

	"loop.example/g01214/impl"
)

func TestApplyTurn(t *testing.T) {
	low := complex(power(-75), 0)
	cases := []struct {
		a       impl.Turn
		s, want impl.Spinor
	}{
		{impl.Turn{{0, -1}, {1, 0}}, impl.Spinor{1, 0}, impl.Spinor{0, 1}},
		{impl.Turn{{1, 2}, {3, 4}}, impl.Spinor{5, 6}, impl.Spinor{17, 39}},
		{impl.Turn{{i64, 1}, {complex(1, 1), -i64}}, impl.Spinor{2, i64}, impl.Spinor{complex(0, 3), complex(3, 2)}},
		{impl.Turn{}, impl.Spinor{greatest, minusPair}, impl.Spinor{}},
		{impl.Turn{{4097, 4096}, {4096, 4097}}, impl.Spinor{4097, -4098}, impl.Spinor{0, 4096*4097 - 4097*4098}},
		{impl.Turn{{low, low}, {1, 0}}, impl.Spinor{low, low}, impl.Spinor{0, low}},
		{impl.Turn{{complex(at(1), 0), i64}, {1, complex(0, -at(3))}}, impl.Spinor{1, complex(at(1), at(2))}, impl.Spinor{complex(-at(1), at(1)), 1}},
	}
	for _, c := range cases {
		s, code := impl.ApplyTurn(c.a, c.s)
		wantValue(t, "ApplyTurn", s, code, c.want)
	}
}

func TestApplyTurnAtTheLimit(t *testing.T) {
	big, most := complex(power(64), 0), complex64(greatest)
	for row := range 2 {
		for _, c := range [][2]impl.Spinor{
			{{big, 0}, {big, 0}}, {{0, big}, {0, i64 * big}}, {{big, big}, {big, -big}},
			{{most, most}, {1, 1}}, {{most, i64}, {-i64, -most}}, {{most, 1}, {1, complex(power(103), 0)}},
		} {
			var a impl.Turn
			a[row] = c[0]
			s, code := impl.ApplyTurn(a, c[1])
			wantNone(t, "ApplyTurn", s, code, impl.ErrLimit)
		}
	}
	s, code := impl.ApplyTurn(impl.Turn{{most, 1}, {0, 0}}, impl.Spinor{1, complex(power(102), 0)})
	wantValue(t, "ApplyTurn", s, code, impl.Spinor{most, 0})
}

func TestApplyTurnExactly(t *testing.T) {
	s := &sampler{state: 42}
	for range samples {
		v, r := s.spinors(3), &reckoner{}
		a := impl.Turn{v[0], v[1]}
		if s.next(4) == 0 {
			a = s.turning()
		}
		want := r.image(a, v[2])
		image, code := impl.ApplyTurn(a, v[2])
		wantReckoned(t, r, "ApplyTurn", image, code, want)
	}
}

func TestTurnVector(t *testing.T) {
	cases := []struct {
		a       impl.Turn
		v, want impl.Vector
	}{
		{impl.Turn{{0, -i64}, {-i64, 0}}, impl.Vector{1, 2, 3}, impl.Vector{1, -2, -3}},
		{impl.Turn{{0, -1}, {1, 0}}, impl.Vector{1, 2, 3}, impl.Vector{-1, 2, -3}},
		{impl.Turn{{-i64, 0}, {0, i64}}, impl.Vector{1, 2, 3}, impl.Vector{-1, -2, 3}},
		{impl.Turn{{1, -i64}, {-i64, 1}}, impl.Vector{1, 2, 3}, impl.Vector{2, -6, 4}},
		{impl.Turn{{1, 2}, {3, 4}}, impl.Vector{1, 0, 0}, impl.Vector{10, 0, 4}},
		{impl.Turn{{1, 2}, {3, 4}}, impl.Vector{0, 1, 0}, impl.Vector{0, -2, 0}},
		{impl.Turn{{1, 2}, {3, 4}}, impl.Vector{0, 0, 1}, impl.Vector{-5, 0, -3}},
		{unit, impl.Vector{at(1), -at(2), at(1<<23 - 1)}, impl.Vector{at(1), -at(2), at(1<<23 - 1)}},
		{unit, impl.Vector{greatest, -greatest, greatest}, impl.Vector{greatest, -greatest, greatest}},
		{impl.Turn{}, impl.Vector{greatest, minusZero, -greatest}, impl.Vector{}},
		// What A makes of M comes first, and is rounded to 0.
		{impl.Turn{{complex(power(-75), 0), 0}, {0, complex(power(75), 0)}}, impl.Vector{power(-75), 0, power(-75)}, impl.Vector{power(-75), 0, 0}},
	}
	for _, c := range cases {
		v, code := impl.TurnVector(c.a, c.v)
		wantValue(t, "TurnVector", v, code, c.want)
	}
}

func TestTurnVectorAtTheLimit(t *testing.T) {
	big := complex(power(64), 0)
	cases := []struct {
		a impl.Turn
		v impl.Vector
	}{
		{impl.Turn{{1, 1}, {0, 1}}, impl.Vector{greatest, 0, greatest}},
		{impl.Turn{{big, 0}, {0, 0}}, impl.Vector{0, 0, power(64)}},
		{impl.Turn{{0, 0}, {0, big}}, impl.Vector{power(64), 0, 0}},
		{impl.Turn{{big, 0}, {big, 0}}, impl.Vector{0, 0, 1}},
		{impl.Turn{{big, 0}, {0, 0}}, impl.Vector{0, 0, 1}},
		// Only an entry that the vector is not taken from is no number.
		{impl.Turn{{1, 0}, {0, big}}, impl.Vector{0, 0, 1}},
	}
	for _, c := range cases {
		v, code := impl.TurnVector(c.a, c.v)
		wantNone(t, "TurnVector", v, code, impl.ErrLimit)
	}
	half := complex(power(63), 0)
	v, code := impl.TurnVector(impl.Turn{{half, 0}, {0, half}}, impl.Vector{1, -1, 1})
	wantValue(t, "TurnVector", v, code, impl.Vector{power(126), -power(126), power(126)})
}

func TestTurnVectorExactly(t *testing.T) {
	s := &sampler{state: 43}
	for range samples / 3 {
		v, r := s.spinors(3), &reckoner{}
		a := impl.Turn{v[0], v[1]}
		vector := impl.Vector{real(v[2][0]), imag(v[2][0]), real(v[2][1])}
		if s.next(2) == 0 {
			a = s.turning()
		}
		want := r.imageOfVector(a, vector)
		turned, code := impl.TurnVector(a, vector)
		wantReckoned(t, r, "TurnVector", turned, code, want)
	}
}

// Promise 15, for chapters 2 and 3: opposite tables make opposite spinors and the same vectors.
func TestImagesUnderOppositeTables(t *testing.T) {
	s := &sampler{state: 44}
	list := goodTables()
	for range samples / 2 {
		list = append(list, s.anyTables(1)...)
	}
	spinors, vectors := 0, 0
	for _, a := range list {
		opposite := negative(a)
		yes, code := impl.AreOpposite(a, opposite)
		wantValue(t, "AreOpposite", yes, code, true)
		v := s.spinors(1)[0]
		image, code := impl.ApplyTurn(a, v)
		turned, codeTurned := impl.ApplyTurn(opposite, v)
		if turned != (impl.Spinor{-image[0], -image[1]}) || codeTurned != code {
			t.Errorf("ApplyTurn of %v and %v: %v, %d and %v, %d", a, v, image, code, turned, codeTurned)
		}
		if code == impl.ErrNone && image != (impl.Spinor{}) {
			spinors++
		}
		vector := impl.Vector(s.together(3))
		first, code := impl.TurnVector(a, vector)
		second, codeSecond := impl.TurnVector(opposite, vector)
		if second != first || codeSecond != code {
			t.Errorf("TurnVector of %v and %v: %v, %d and %v, %d", a, vector, first, code, second, codeSecond)
		}
		if code == impl.ErrNone && first != (impl.Vector{}) {
			vectors++
		}
	}
	if spinors < samples/4 || vectors < samples/8 {
		t.Errorf("only %d spinors and %d vectors of %d say something", spinors, vectors, len(list))
	}
}

// Promise 15, with images that are found without the program.
func TestKnownImagesUnderOppositeTables(t *testing.T) {
	a := impl.Turn{{i64, 1}, {complex(1, 1), -i64}}
	image, code := impl.ApplyTurn(negative(a), impl.Spinor{2, i64})
	wantValue(t, "ApplyTurn", image, code, impl.Spinor{complex(0, -3), complex(-3, -2)})
	for _, b := range []impl.Turn{{{1, -i64}, {-i64, 1}}, {{-1, i64}, {i64, -1}}} {
		v, code := impl.TurnVector(b, impl.Vector{1, 2, 3})
		wantValue(t, "TurnVector", v, code, impl.Vector{2, -6, 4})
	}
	x, code := impl.HalvedTurn(0, 0)
	wantValue(t, "HalvedTurn", x, code, impl.Turn{{0, -i64}, {-i64, 0}})
	v, code := impl.TurnVector(negative(x), impl.Vector{1, 2, 3})
	wantValue(t, "TurnVector", v, code, impl.Vector{1, -2, -3})
}
