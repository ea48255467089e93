package tests

import (
	"testing"

	"loop.example/g01214/impl"
)

func TestPowerOfTurn(t *testing.T) {
	z := impl.Turn{{-i64, 0}, {0, i64}}
	shear, two := impl.Turn{{1, 1}, {0, 1}}, impl.Turn{{2, 0}, {0, 1}}
	half := impl.Turn{{0.5, 0}, {0, 1}}
	most := tableWith(3, greatest, -greatest)
	cases := []struct {
		a    impl.Turn
		k    int64
		want impl.Turn
	}{
		{z, 0, unit},
		{impl.Turn{}, 0, unit},
		{most, 0, unit},
		{most, 1, most},
		{most, -1, daggered(most)},
		{impl.Turn{}, 1, impl.Turn{}},
		{impl.Turn{}, -1000, impl.Turn{}},
		{z, 2, negative(unit)},
		{z, -2, negative(unit)},
		{z, 3, negative(z)},
		{z, -3, z},
		{z, 999, negative(z)},
		{z, -999, z},
		{z, 1000, unit},
		{z, -1000, unit},
		{shear, 1000, impl.Turn{{1, 1000}, {0, 1}}},
		{shear, 999, impl.Turn{{1, 999}, {0, 1}}},
		{shear, -1000, impl.Turn{{1, 0}, {1000, 1}}},
		{two, 127, impl.Turn{{complex(power(127), 0), 0}, {0, 1}}},
		{half, 149, impl.Turn{{complex(at(1), 0), 0}, {0, 1}}},
		{half, 150, impl.Turn{{0, 0}, {0, 1}}},
		{half, -149, impl.Turn{{complex(at(1), 0), 0}, {0, 1}}},
		{impl.Turn{{1, 2}, {3, 4}}, 3, impl.Turn{{37, 54}, {81, 118}}},
		{impl.Turn{{1, i64}, {2, 0}}, -2, impl.Turn{{complex(1, -2), 2}, {-i64, complex(0, -2)}}},
	}
	for _, c := range cases {
		a, code := impl.PowerOfTurn(c.a, c.k)
		wantValue(t, "PowerOfTurn", a, code, c.want)
	}
}

func TestPowerOfTurnErrors(t *testing.T) {
	two, most := impl.Turn{{2, 0}, {0, 1}}, tableWith(0, greatest, greatest)
	// ErrRange comes ahead of ErrLimit.
	for _, k := range farPowers {
		for _, a := range []impl.Turn{{}, unit, two, most} {
			power, code := impl.PowerOfTurn(a, k)
			wantNone(t, "PowerOfTurn", power, code, impl.ErrRange)
		}
	}
	for _, k := range []int64{128, -128, 129, 255, 256, 1000, -1000} {
		power, code := impl.PowerOfTurn(two, k)
		wantNone(t, "PowerOfTurn", power, code, impl.ErrLimit)
	}
	for _, k := range []int64{2, -2, 3, -3, 999} {
		power, code := impl.PowerOfTurn(most, k)
		wantNone(t, "PowerOfTurn", power, code, impl.ErrLimit)
	}
	// Its square is a number, but not the product of this and the table.
	big := impl.Turn{{complex(power(63), 0), 0}, {0, 1}}
	power, code := impl.PowerOfTurn(big, 3)
	wantNone(t, "PowerOfTurn", power, code, impl.ErrLimit)
}

func TestPowerOfTurnExactly(t *testing.T) {
	s := &sampler{state: 47}
	found := 0
	for range samples / 20 {
		a, r := s.anyTables(1)[0], &reckoner{}
		k := s.next(31) - 15
		if s.next(2) == 0 {
			a, k = s.turning(), s.next(2001)-1000
		}
		want := r.power(a, k)
		power, code := impl.PowerOfTurn(a, k)
		wantReckoned(t, r, "PowerOfTurn", power, code, want)
		if code == impl.ErrNone {
			found++
		}
	}
	if found < samples/50 {
		t.Errorf("only %d powers are found", found)
	}
}
