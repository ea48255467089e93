package tests

import (
	"math"
	"testing"

	"loop.example/g01214/impl"
)

func TestShiftSpinor(t *testing.T) {
	cases := []struct {
		x    float32
		k    int64
		want float32
	}{
		{1, 0, 1}, {1, 3, 8}, {-3, -1, -1.5}, {minusZero, 300, 0}, {0, -300, 0},
		{at(1), -1, 0}, {at(3), -1, at(2)}, {at(5), -1, at(2)}, {at(6), -2, at(2)}, {-at(7), -1, -at(4)}, {at(1<<23 + 1), -1, at(1 << 22)},
		{at(1<<23 + 3), -1, at(1<<22 + 2)}, {at(1), 276, power(127)}, {at(3), 275, 1.5 * power(127)}, {at(1), 149, 1},
		{greatest, -300, 0}, {greatest, -277, at(1)}, {greatest, -278, 0}, {power(127), -277, 0}, {power(127), -276, at(1)}, {at(0x7f000001), -277, at(1)},
		{greatest, -254, power(-126)}, {greatest, -253, greatest * power(-127) * power(-126)}, {1, -149, at(1)}, {1, -150, 0}, {1.5, -150, at(1)},
		// By steps it would be 7 and then 3.5 times the least number, and so 4 times it.
		{7 - power(-20), -150, at(3)}, {-7 + power(-20), -150, -at(3)}, {7, -150, at(4)}, {5 + power(-20), -150, at(3)}, {5, -150, at(2)},
		{power(-149), 300 - 24, power(127)}, {power(127), 0, power(127)}, {-greatest, 0, -greatest}, {greatest / 2, 1, greatest},
	}
	for _, c := range cases {
		for part := range 4 {
			s, code := impl.ShiftSpinor(spinorWith(part, c.x, 0), c.k)
			wantValue(t, "ShiftSpinor", s, code, spinorWith(part, c.want, 0))
		}
	}
}

func TestShiftSpinorErrors(t *testing.T) {
	for _, k := range []int64{301, -301, math.MaxInt64, math.MinInt64, 1 << 32, -1 << 32, 300 + 1<<32} {
		for _, s := range []impl.Spinor{{}, {1, i64}, {greatest, greatest}} {
			got, code := impl.ShiftSpinor(s, k)
			wantNone(t, "ShiftSpinor", got, code, impl.ErrRange)
		}
	}
	for part := range 4 {
		for _, c := range []struct {
			x float32
			k int64
		}{{greatest, 1}, {-power(127), 1}, {1, 128}, {at(1), 277}, {at(1), 300}, {at(3), 276}, {-at(1), 300}, {greatest, 300}} {
			got, code := impl.ShiftSpinor(spinorWith(part, c.x, 0), c.k)
			wantNone(t, "ShiftSpinor", got, code, impl.ErrLimit)
		}
	}
}

func TestShiftSpinorExactly(t *testing.T) {
	s := &sampler{state: 30}
	for range samples {
		v, r := s.spinors(1)[0], &reckoner{}
		k := s.next(601) - 300
		if s.next(2) == 0 {
			k = s.next(61) - 30
		}
		part := func(x float32) float32 { return r.once(exactProduct(exactOf(x), exactPower(int(k)))) }
		want := impl.Spinor{complex(part(real(v[0])), part(imag(v[0]))), complex(part(real(v[1])), part(imag(v[1])))}
		got, code := impl.ShiftSpinor(v, k)
		wantReckoned(t, r, "ShiftSpinor", got, code, want)
	}
}

// The normal numbers keep all their digits as long as the shifted ones are normal, too.
func TestShiftsUndoEachOther(t *testing.T) {
	s := &sampler{state: 31}
	for range samples {
		v := impl.Spinor{complex(at(100<<23+s.next(40<<23)), -at(100<<23+s.next(40<<23))), complex(at(100<<23+s.next(40<<23)), 0)}
		k := s.next(199) - 99
		there, code := impl.ShiftSpinor(v, k)
		if code != impl.ErrNone {
			t.Fatalf("ShiftSpinor(%v, %d) has the code %d", v, k, code)
		}
		back, code := impl.ShiftSpinor(there, -k)
		wantValue(t, "ShiftSpinor", back, code, v)
	}
}

func TestGreatestPart(t *testing.T) {
	for part := range 4 {
		for _, c := range [][2]float32{{5, -4}, {-5, 4}, {greatest, 1}, {-greatest, 1}, {at(1), 0}, {-at(2), at(1)}, {-1, 1}, {0, minusZero}, {minusZero, 0}} {
			x, code := impl.GreatestPart(spinorWith(part, c[0], c[1]))
			wantValue(t, "GreatestPart", x, code, max(c[0], -c[0]))
			if math.Signbit(float64(x)) {
				t.Errorf("GreatestPart = %v", x)
			}
		}
	}
	x, code := impl.GreatestPart(impl.Spinor{})
	wantValue(t, "GreatestPart", x, code, 0)
}

func TestGreatestPartExactly(t *testing.T) {
	s := &sampler{state: 32}
	for range samples {
		v := s.spinors(1)[0]
		want := float64(0)
		for _, z := range v {
			want = max(want, math.Abs(float64(real(z))), math.Abs(float64(imag(z))))
		}
		x, code := impl.GreatestPart(v)
		wantValue(t, "GreatestPart", x, code, float32(want))
	}
}

func TestNearSpinors(t *testing.T) {
	cases := []struct {
		x, y  float32
		steps int64
	}{
		{1, 1, 0}, {0, minusZero, 0}, {1, at(1065353216 + 5), 5}, {at(1), -at(1), 2}, {minusZero, at(3), 3}, {-at(3), 0, 3},
		{greatest, -greatest, 2 * impl.MaxPlace}, {at(1 << 23), at(1<<23 - 1), 1},
	}
	for part := range 4 {
		for _, c := range cases {
			for _, k := range []int64{c.steps - 1, c.steps, c.steps + 1, 0, math.MaxInt64} {
				if k < 0 {
					continue
				}
				for _, rest := range []float32{1, 0, greatest} {
					s, u := spinorWith(part, c.x, rest), spinorWith(part, c.y, rest)
					near, code := impl.NearSpinors(s, u, k)
					wantValue(t, "NearSpinors", near, code, c.steps <= k)
					near, code = impl.NearSpinors(u, s, k)
					wantValue(t, "NearSpinors", near, code, c.steps <= k)
				}
			}
		}
	}
	for _, k := range []int64{-1, -2, math.MinInt64} {
		near, code := impl.NearSpinors(impl.Spinor{1, i64}, impl.Spinor{1, i64}, k)
		wantNone(t, "NearSpinors", near, code, impl.ErrRange)
		near, code = impl.NearSpinors(impl.Spinor{1, i64}, impl.Spinor{}, k)
		wantNone(t, "NearSpinors", near, code, impl.ErrRange)
	}
}
