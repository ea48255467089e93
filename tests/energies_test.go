package tests

import (
	"testing"

	"loop.example/g01214/impl"
)

func TestEnergyOf(t *testing.T) {
	cases := []struct {
		b    impl.Vector
		s    impl.Spinor
		want float32
	}{
		{impl.Vector{0, 0, 2}, up, 2},
		{impl.Vector{0, 0, 2}, down, -2},
		{impl.Vector{1, 4, 0}, impl.Spinor{1, i64}, 8},
		{impl.Vector{1, 4, 0}, impl.Spinor{i64, 1}, -8},
		{impl.Vector{1, 4, 0}, impl.Spinor{1, 1}, 2},
		{impl.Vector{1, 4, 5}, impl.Spinor{3, complex(2, 1)}, 56},
		{impl.Vector{1, 4, 5}, impl.Spinor{complex(1, 2), complex(3, -1)}, -79},
		{impl.Vector{}, impl.Spinor{two(63), i64}, 0},
		{impl.Vector{greatest, -greatest, greatest}, impl.Spinor{}, 0},
		{impl.Vector{minusZero, 2, minusZero}, impl.Spinor{minusPair, complex(minusZero, 3)}, 0},
		// The inner product is made from the left.
		{impl.Vector{1 << 23, 0.5, 1}, impl.Spinor{1, complex(1, 1)}, 1<<24 - 1},
		{impl.Vector{0.5, 1 << 23, 1}, impl.Spinor{1, complex(1, 1)}, 1<<24 - 1},
		// The squares are rounded before one is taken from the other.
		{impl.Vector{0, 0, 1}, impl.Spinor{4097, complex(4096, 91)}, 16785408 - (16777216 + 91*91 - 1)},
		// The product and the squares of numbers below the root of the least number are 0.
		{impl.Vector{1, 1, 1}, impl.Spinor{two(-75), two(-75)}, 0},
		{impl.Vector{1, 1, 1}, impl.Spinor{complex(at(1<<23), 0), 1}, at(1<<24) - 1},
		{impl.Vector{at(1), 0, 0}, impl.Spinor{1, 1}, at(2)},
		{impl.Vector{at(1), at(1), at(1)}, impl.Spinor{0.5, complex(0.5, 0.5)}, 0},
		{impl.Vector{greatest, greatest, 0}, impl.Spinor{1, complex(0.5, -0.5)}, 0},
	}
	for _, c := range cases {
		x, code := impl.EnergyOf(c.b, c.s)
		wantValue(t, "EnergyOf", x, code, c.want)
	}
}

func TestEnergyOfAtTheLimit(t *testing.T) {
	big, half, more := two(64), two(63), complex(1.5*power(63), 0)
	for _, c := range []struct {
		b impl.Vector
		s impl.Spinor
	}{
		// The vector is not found, even if it does not matter: a square, the product, or its double.
		{impl.Vector{}, impl.Spinor{big, 0}}, {impl.Vector{}, impl.Spinor{0, -i64 * big}},
		{impl.Vector{}, impl.Spinor{greatest, greatest}}, {impl.Vector{}, impl.Spinor{more, more}}, {alongZ, impl.Spinor{more, i64 * more}},
		// The inner product is not found.
		{impl.Vector{greatest, 0, 0}, impl.Spinor{1, 1}}, {impl.Vector{0, greatest, 0}, impl.Spinor{1, -i64}}, {impl.Vector{0, 0, greatest}, impl.Spinor{i64, 1.5}},
		{impl.Vector{greatest, greatest, -greatest}, impl.Spinor{1, complex(0.5, 0.5)}},
	} {
		x, code := impl.EnergyOf(c.b, c.s)
		wantNone(t, "EnergyOf", x, code, impl.ErrLimit)
	}
	x, code := impl.EnergyOf(impl.Vector{0, 0, 1}, impl.Spinor{half, two(62)})
	wantValue(t, "EnergyOf", x, code, 3*power(124))
}

func TestEnergyOfExactly(t *testing.T) {
	s := &sampler{state: 163}
	found := 0
	for range samples / 2 {
		b, _ := s.vectors()
		spinor := s.start()
		r := &reckoner{}
		want := r.energy(b, spinor)
		x, code := impl.EnergyOf(b, spinor)
		wantReckoned(t, r, "EnergyOf", x, code, want)
		if code == impl.ErrNone && x != 0 {
			found++
		}
	}
	if found < samples/4 {
		t.Errorf("only %d of %d energies say something", found, samples/2)
	}
}
