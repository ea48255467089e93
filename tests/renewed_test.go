package tests

import (
	"testing"

	"loop.example/g01214/impl"
)

func TestRenewTurn(t *testing.T) {
	low := at(0x3f3504f3)
	most := complex64(complex(greatest, -greatest))
	cases := [][2]impl.Turn{
		{unit, unit},
		{{{3, 4}, {7, 7}}, {{complex(float32(0.6), 0), complex(float32(0.8), 0)}, {complex(float32(-0.8), 0), complex(float32(0.6), 0)}}},
		{{{complex(0, 3), 4}, {}}, {{complex(0, float32(0.6)), complex(float32(0.8), 0)}, {complex(float32(-0.8), 0), complex(0, float32(-0.6))}}},
		{{{4, complex(0, 3)}, {}}, {{complex(float32(0.8), 0), complex(0, float32(0.6))}, {complex(0, float32(0.6)), complex(float32(0.8), 0)}}},
		{{{0, complex(0, -power(63))}, {1, 1}}, {{0, -i64}, {-i64, 0}}},
		{{{complex(1, 1), complex(-1, -1)}, {}}, {{complex(0.5, 0.5), complex(-0.5, -0.5)}, {complex(0.5, -0.5), complex(0.5, -0.5)}}},
		// The second row may be what it likes.
		{{{2, minusPair}, {most, most}}, unit},
		// q is rounded to the least positive number, so that a part becomes greater than 1.
		{{{complex(power(-75)*1.5, 0), 0}, {1, 0}}, {{complex(at(0x3f87c3b7), 0), 0}, {0, complex(at(0x3f87c3b7), 0)}}},
		{{{0, complex(power(-75), power(-75))}, {0, 1}}, {{0, complex(low, low)}, {complex(-low, low), 0}}},
	}
	for _, c := range cases {
		a, code := impl.RenewTurn(c[0])
		wantValue(t, "RenewTurn", a, code, c[1])
	}
}

func TestRenewTurnErrors(t *testing.T) {
	tiny, most := complex(power(-75), 0), complex64(complex(greatest, greatest))
	for _, row := range []impl.Spinor{{}, {minusPair, complex(minusZero, 0)}, {tiny, tiny}, {-i64 * tiny, tiny}, {complex(at(1), 0), 0}, {0, complex(0, -at(1<<23))}} {
		for _, second := range []impl.Spinor{{}, {0, 1}, {most, most}} {
			a, code := impl.RenewTurn(impl.Turn{row, second})
			wantNone(t, "RenewTurn", a, code, impl.ErrState)
		}
	}
	z, big := complex(1.5*power(63), 0), complex(power(64), 0)
	for _, row := range []impl.Spinor{{z, z}, {z, i64 * z}, {big, 0}, {0, -i64 * big}, {most, most}} {
		for _, second := range []impl.Spinor{{}, {0, 1}, {most, most}} {
			a, code := impl.RenewTurn(impl.Turn{row, second})
			wantNone(t, "RenewTurn", a, code, impl.ErrLimit)
			drift, code := impl.DriftOfTurn(impl.Turn{row, second})
			wantNone(t, "DriftOfTurn", drift, code, impl.ErrLimit)
		}
	}
}

func TestRenewTurnExactly(t *testing.T) {
	s := &sampler{state: 45}
	for range samples {
		a, r := s.anyTables(1)[0], &reckoner{}
		q := r.normSquare(a[0])
		renewed, code := impl.RenewTurn(a)
		if !r.failed && q == 0 {
			wantNone(t, "RenewTurn", renewed, code, impl.ErrState)
			continue
		}
		n := r.root(q)
		first, second := r.parts(a[0][0], n), r.parts(a[0][1], n)
		want := impl.Turn{{first, second}, {-mirrored(second), mirrored(first)}}
		wantReckoned(t, r, "RenewTurn", renewed, code, want)
	}
}

func TestDriftOfTurn(t *testing.T) {
	low, most := complex(power(-75), 0), complex64(greatest)
	cases := []struct {
		a    impl.Turn
		want float32
	}{
		{unit, 0},
		{impl.Turn{}, 1},
		{impl.Turn{{minusPair, minusPair}, {minusPair, minusPair}}, 1},
		{impl.Turn{{0, -1}, {1, 0}}, 0},
		{impl.Turn{{2, 0}, {0, 1}}, 3},
		{impl.Turn{{0, 2}, {1, 0}}, 3},
		{impl.Turn{{0.5, 0}, {0, 2}}, 0.75},
		{impl.Turn{{1, 0}, {0, complex(1, -5)}}, 5},
		{impl.Turn{{1, 0}, {0, complex(1, 5)}}, 5},
		{impl.Turn{{1, 0}, {0, -1}}, 2},
		{impl.Turn{{1, 0}, {0, 8}}, 7},
		{impl.Turn{{1, 0}, {0, i64}}, 1},
		{impl.Turn{{low, low}, {1, 1}}, 1},
		{impl.Turn{{1, 0}, {0, complex(1, -at(1))}}, at(1)},
		{impl.Turn{{complex(at(0x3f800001), 0), 0}, {0, 1}}, power(-22)},
		{impl.Turn{{complex(at(0x3f7fffff), 0), 0}, {0, 1}}, power(-23)},
		{impl.Turn{{complex(power(63), 0), 0}, {}}, power(126)},
		{impl.Turn{{1, 0}, {most, -most}}, greatest},
	}
	for _, c := range cases {
		x, code := impl.DriftOfTurn(c.a)
		wantValue(t, "DriftOfTurn", x, code, c.want)
	}
	// The determinant is no number, but q is one.
	for _, a := range []impl.Turn{{{1, 1}, {most, -most}}, {{i64, 1}, {-i64 * most, most}}, {{2, 0}, {0, most}}, {{0, -2}, {-i64 * most, 0}}} {
		x, code := impl.DriftOfTurn(a)
		wantNone(t, "DriftOfTurn", x, code, impl.ErrLimit)
	}
}

func TestDriftOfTurnExactly(t *testing.T) {
	s := &sampler{state: 46}
	for range samples {
		a, r := s.anyTables(1)[0], &reckoner{}
		want := r.drift(a)
		x, code := impl.DriftOfTurn(a)
		wantReckoned(t, r, "DriftOfTurn", x, code, want)
	}
}
