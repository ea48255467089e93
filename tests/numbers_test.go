package tests

import (
	"math"
	"testing"

	"loop.example/g01214/impl"
)

func TestErrorCodesAndLimits(t *testing.T) {
	codes := []int64{impl.ErrNone, impl.ErrInvalid, impl.ErrRange, impl.ErrLimit, impl.ErrNotFound, impl.ErrState, impl.ErrSyntax}
	for i, code := range codes {
		if code != int64(i) {
			t.Errorf("the code %d is %d", i, code)
		}
	}
	if impl.MaxPlace != 2139095039 || impl.MaxTerms != 100 {
		t.Errorf("limits: %d, %d", impl.MaxPlace, impl.MaxTerms)
	}
}

func TestPlaces(t *testing.T) {
	cases := []struct {
		x     float32
		place int64
	}{
		{0, 0}, {minusZero, 0}, {power(-149), 1}, {-power(-149), -1}, {3 * power(-149), 3},
		{power(-126) - power(-149), 1<<23 - 1}, {power(-126), 1 << 23}, {-power(-126), -1 << 23},
		{1, 1065353216}, {-1, -1065353216}, {2, 1065353216 + 1<<23}, {0.5, 1065353216 - 1<<23},
		{greatest, impl.MaxPlace}, {-greatest, -impl.MaxPlace},
	}
	for _, c := range cases {
		if n, code := impl.PlaceOf(c.x); n != c.place || code != impl.ErrNone {
			t.Errorf("PlaceOf(%v) = %d, %d, want %d", c.x, n, code, c.place)
		}
		x, code := impl.FloatAt(c.place)
		wantNumber(t, "FloatAt", x, code, c.x)
	}
	for _, x := range badParts {
		if n, code := impl.PlaceOf(x); n != 0 || code != impl.ErrInvalid {
			t.Errorf("PlaceOf(%v) = %d, %d", x, n, code)
		}
	}
	for _, n := range []int64{impl.MaxPlace + 1, -impl.MaxPlace - 1, 1 << 31, 1 << 32, 1<<32 + 1, -1 << 32, math.MaxInt64, math.MinInt64} {
		x, code := impl.FloatAt(n)
		wantNoNumber(t, "FloatAt", x, code, impl.ErrRange)
	}
}

// Promise 1: numbers come back from their places, and the places ascend with them.
func TestNumbersComeBackFromPlaces(t *testing.T) {
	for exponent := int64(0); exponent < 255; exponent++ {
		for _, digits := range []int64{0, 1, 1 << 22, 0x2aaaab, 1<<23 - 2, 1<<23 - 1} {
			place := exponent<<23 + digits
			for _, n := range []int64{place, -place} {
				checkPlace(t, n)
			}
		}
	}
	s := &sampler{state: 1}
	for range samples {
		x := s.number()
		n, _ := impl.PlaceOf(x)
		back, code := impl.FloatAt(n)
		wantNumber(t, "FloatAt of PlaceOf", back, code, x)
	}
}

func checkPlace(t *testing.T, n int64) {
	t.Helper()
	x, code := impl.FloatAt(n)
	want := exactAt(max(n, -n))
	if n < 0 {
		want.Neg(want)
	}
	if code != impl.ErrNone || exactOf(x).Cmp(want) != 0 {
		t.Errorf("FloatAt(%d) = %v, %d", n, x, code)
	}
	if back, code := impl.PlaceOf(x); back != n || code != impl.ErrNone {
		t.Errorf("PlaceOf(%v) = %d, %d, want %d", x, back, code, n)
	}
	if n == impl.MaxPlace {
		return
	}
	if next, code := impl.FloatAt(n + 1); code != impl.ErrNone || !(x < next) {
		t.Errorf("FloatAt(%d) = %v, %d, behind %v", n+1, next, code, x)
	}
}

func TestIsComplex(t *testing.T) {
	good := []complex64{0, 1, complex(-greatest, greatest), complex(power(-149), minusZero)}
	for _, z := range good {
		if !impl.IsComplex(z) {
			t.Errorf("IsComplex(%v) is false", z)
		}
	}
	for _, z := range badComplex() {
		if impl.IsComplex(z) {
			t.Errorf("IsComplex(%v) is true", z)
		}
	}
}

func TestRoots(t *testing.T) {
	cases := []struct{ x, root float32 }{
		{0, 0}, {minusZero, 0}, {1, 1}, {2.25, 1.5}, {1 << 24, 1 << 12},
		{power(-149), at(0x3f3504f3 - 74<<23)},
		{power(-148), power(-74)},
		{2, at(0x3fb504f3)},
		{greatest, at(0x5f7fffff)},
		{power(-126) - power(-149), at(0x1fffffff)},
	}
	for _, c := range cases {
		x, code := impl.RootOf(c.x)
		wantNumber(t, "RootOf", x, code, c.root)
	}
	for k := -74; k <= 63; k++ {
		x, code := impl.RootOf(power(k) * power(k))
		wantNumber(t, "RootOf", x, code, power(k))
	}
	s := &sampler{state: 2}
	for range samples {
		x := max(s.number(), 0)
		root, code := impl.RootOf(x)
		wantNumber(t, "RootOf", root, code, at(rootExact(x)))
	}
}

func TestRootErrors(t *testing.T) {
	for _, x := range badParts {
		root, code := impl.RootOf(x)
		wantNoNumber(t, "RootOf", root, code, impl.ErrInvalid)
	}
	for _, x := range []float32{-1, -power(-149), -greatest} {
		root, code := impl.RootOf(x)
		wantNoNumber(t, "RootOf", root, code, impl.ErrRange)
	}
}

func TestStepsBetween(t *testing.T) {
	cases := []struct {
		x, y  float32
		steps int64
	}{
		{1, 1, 0}, {1, 2, 1 << 23}, {2, 1, 1 << 23}, {0, minusZero, 0},
		{power(-149), -power(-149), 2}, {-1, 1, 2 * 1065353216},
		{-greatest, greatest, 2 * impl.MaxPlace}, {greatest, -greatest, 2 * impl.MaxPlace},
	}
	for _, c := range cases {
		if n, code := impl.StepsBetween(c.x, c.y); n != c.steps || code != impl.ErrNone {
			t.Errorf("StepsBetween(%v, %v) = %d, %d, want %d", c.x, c.y, n, code, c.steps)
		}
	}
	for _, x := range badParts {
		for _, pair := range [][2]float32{{x, 1}, {1, x}, {x, x}} {
			if n, code := impl.StepsBetween(pair[0], pair[1]); n != 0 || code != impl.ErrInvalid {
				t.Errorf("StepsBetween(%v) = %d, %d", pair, n, code)
			}
		}
	}
}

func TestAreNear(t *testing.T) {
	cases := []struct {
		z, w complex64
		k    int64
		near bool
	}{
		{1, 1, 0, true}, {complex(0, minusZero), complex(minusZero, 0), 0, true},
		{complex(at(5), at(9)), complex(at(8), at(8)), 3, true},
		{complex(at(5), at(9)), complex(at(8), at(8)), 2, false},
		{complex(at(9), at(5)), complex(at(8), at(8)), 2, false},
		{complex(at(9), at(5)), complex(at(8), at(8)), 3, true},
		{complex(at(-1), 0), complex(at(1), 0), 1, false},
		{complex(at(-1), 0), complex(at(1), 0), 2, true},
		{complex(-greatest, 0), greatest, 2*impl.MaxPlace - 1, false},
		{complex(-greatest, greatest), complex(greatest, -greatest), 2 * impl.MaxPlace, true},
		{complex(-greatest, 0), greatest, math.MaxInt64, true},
	}
	for _, c := range cases {
		if near, code := impl.AreNear(c.z, c.w, c.k); near != c.near || code != impl.ErrNone {
			t.Errorf("AreNear(%v, %v, %d) = %v, %d", c.z, c.w, c.k, near, code)
		}
	}
	for _, k := range []int64{-1, math.MinInt64} {
		if near, code := impl.AreNear(1, 1, k); near || code != impl.ErrRange {
			t.Errorf("AreNear with %d = %v, %d", k, near, code)
		}
	}
	for _, z := range badComplex() {
		for _, pair := range [][2]complex64{{z, 1}, {1, z}, {z, z}} {
			for _, k := range []int64{-1, 0, math.MaxInt64} {
				if near, code := impl.AreNear(pair[0], pair[1], k); near || code != impl.ErrInvalid {
					t.Errorf("AreNear(%v, %d) = %v, %d", pair, k, near, code)
				}
			}
		}
	}
}
