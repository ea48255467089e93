package tests

import (
	"testing"

	"loop.example/g01214/impl"
)

// productCases are two vectors, their inner product, and their cross product.
var productCases = []struct {
	v, w  impl.Vector
	inner float32
	cross impl.Vector
}{
	{impl.Vector{1, 2, 3}, impl.Vector{4, 5, -6}, -4, impl.Vector{-27, 18, -3}},
	{impl.Vector{2, 3, 5}, impl.Vector{7, 11, 13}, 112, impl.Vector{-16, 9, 1}},
	{alongX, alongY, 0, alongZ},
	{alongY, alongZ, 0, alongX},
	{alongZ, alongX, 0, alongY},
	{impl.Vector{3, -1, 2}, impl.Vector{3, -1, 2}, 14, impl.Vector{}},
	{impl.Vector{1, 2, 3}, impl.Vector{-2, -4, -6}, -28, impl.Vector{}},
	{impl.Vector{}, impl.Vector{greatest, -greatest, greatest}, 0, impl.Vector{}},
	{impl.Vector{minusZero, 1, minusZero}, impl.Vector{-5, minusZero, -2}, 0, impl.Vector{-2, 0, 5}},
	// Each product is rounded before it is added, or before it is taken from another one: 4097 * 4097
	// becomes 4096 * 4098.
	{impl.Vector{4097, 4096, 0}, impl.Vector{4097, -4098, 0}, 0, impl.Vector{0, 0, -4097*4098 - 4096*4097}},
	{impl.Vector{4097, 4096, 0}, impl.Vector{4098, 4097, 0}, 4097*4098 + 4096*4097, impl.Vector{}},
	{impl.Vector{0, 4097, 4096}, impl.Vector{0, 4098, 4097}, 4097*4098 + 4096*4097, impl.Vector{}},
	{impl.Vector{4096, 0, 4097}, impl.Vector{4097, 0, 4098}, 4097*4098 + 4096*4097, impl.Vector{}},
	// The inner product is made from the left.
	{impl.Vector{1, 1, 1}, impl.Vector{1 << 24, 1, 1}, 1 << 24, impl.Vector{0, 1<<24 - 1, 1 - 1<<24}},
	{impl.Vector{1, 1, 1}, impl.Vector{1, 1, 1 << 24}, 1<<24 + 2, impl.Vector{1<<24 - 1, 1 - 1<<24, 0}},
	// Numbers below the normal ones.
	{impl.Vector{power(-75), power(-75), 1.5 * power(-75)}, impl.Vector{power(-75), power(-75), power(-75)}, power(-149), impl.Vector{-power(-149), power(-149), 0}},
	{impl.Vector{at(1), at(3), 0}, impl.Vector{0.5, 0.5, 0.5}, at(2), impl.Vector{at(2), 0, -at(2)}},
	{impl.Vector{greatest, 0, 0}, impl.Vector{1, 1, -1}, greatest, impl.Vector{0, greatest, greatest}},
}

func TestInnerOfVectors(t *testing.T) {
	for _, c := range productCases {
		x, code := impl.InnerOfVectors(c.v, c.w)
		wantValue(t, "InnerOfVectors", x, code, c.inner)
	}
	// What would be the greatest number's double is taken away again, in this order only.
	x, code := impl.InnerOfVectors(impl.Vector{greatest, -greatest, greatest}, impl.Vector{1, 1, 1})
	wantValue(t, "InnerOfVectors", x, code, greatest)
}

func TestCrossOfVectors(t *testing.T) {
	for _, c := range productCases {
		v, code := impl.CrossOfVectors(c.v, c.w)
		wantValue(t, "CrossOfVectors", v, code, c.cross)
	}
}

func TestInnerOfVectorsAtTheLimit(t *testing.T) {
	big := power(64)
	for _, pair := range [][2]impl.Vector{
		{{big, 0, 0}, {big, 0, 0}}, {{0, big, 0}, {0, -big, 0}}, {{0, 0, big}, {1, 1, big}},
		// Two products, or the sum on the way, are not finite.
		{{big, big, 0}, {big, -big, 0}}, {{big, 0, big}, {-big, 0, big}},
		{{greatest, greatest, greatest}, {1, 1, -1}}, {{greatest, power(103), 0}, {1, 1, 0}}, {{1, -greatest, greatest}, {-power(103), 1, 1}},
	} {
		for _, order := range [][2]impl.Vector{pair, {pair[1], pair[0]}} {
			x, code := impl.InnerOfVectors(order[0], order[1])
			wantNone(t, "InnerOfVectors", x, code, impl.ErrLimit)
		}
	}
}

func TestCrossOfVectorsAtTheLimit(t *testing.T) {
	big := power(64)
	for i := range 3 {
		j := (i + 1) % 3
		for _, parts := range [][4]float32{
			// One of the products, both, or only the difference is not finite.
			{big, 0, 0, big}, {0, big, big, 0}, {big, big, big, big}, {big, -big, big, big},
			{greatest, -greatest, 1, 1}, {greatest, 1, -power(103), 1}, {1, 1, -greatest, greatest},
		} {
			var v, w impl.Vector
			v[i], v[j], w[i], w[j] = parts[0], parts[1], parts[2], parts[3]
			for _, order := range [][2]impl.Vector{{v, w}, {w, v}} {
				cross, code := impl.CrossOfVectors(order[0], order[1])
				wantNone(t, "CrossOfVectors", cross, code, impl.ErrLimit)
			}
		}
	}
	cross, code := impl.CrossOfVectors(impl.Vector{greatest, power(102), 0}, impl.Vector{-1, 1, 0})
	wantValue(t, "CrossOfVectors", cross, code, impl.Vector{0, 0, greatest})
}

func TestProductsOfVectorsExactly(t *testing.T) {
	s := &sampler{state: 160}
	found := 0
	for range samples {
		v, w := s.vectors()
		r := &reckoner{}
		inner := r.dot(v, w)
		x, code := impl.InnerOfVectors(v, w)
		wantReckoned(t, r, "InnerOfVectors", x, code, inner)
		r = &reckoner{}
		want := r.crossOfVectors(v, w)
		cross, code := impl.CrossOfVectors(v, w)
		wantReckoned(t, r, "CrossOfVectors", cross, code, want)
		if code == impl.ErrNone && cross != (impl.Vector{}) {
			found++
		}
	}
	if found < samples/2 {
		t.Errorf("only %d of %d cross products say something", found, samples)
	}
}

// The guarantee of chapter 9: inner products are commutative.
func TestInnerProductsAreCommutative(t *testing.T) {
	s := &sampler{state: 161}
	found := 0
	for range samples {
		v, w := s.vectors()
		x, code := impl.InnerOfVectors(v, w)
		y, other := impl.InnerOfVectors(w, v)
		if x != y || code != other {
			t.Errorf("InnerOfVectors of %v and %v: %v, %d and %v, %d", v, w, x, code, y, other)
		}
		if code == impl.ErrNone && x != 0 {
			found++
		}
	}
	if found < samples/2 {
		t.Errorf("only %d of %d inner products say something", found, samples)
	}
	x, code := impl.InnerOfVectors(impl.Vector{4, 5, -6}, impl.Vector{1, 2, 3})
	wantValue(t, "InnerOfVectors", x, code, -4)
}

// The guarantee of chapter 9: cross products change their sign when turned round.
func TestCrossProductsTurnedRound(t *testing.T) {
	s := &sampler{state: 162}
	found := 0
	for range samples {
		v, w := s.vectors()
		x, code := impl.CrossOfVectors(v, w)
		y, other := impl.CrossOfVectors(w, v)
		if y != turnedRound(x) || code != other {
			t.Errorf("CrossOfVectors of %v and %v: %v, %d and %v, %d", v, w, x, code, y, other)
		}
		if code == impl.ErrNone && x != (impl.Vector{}) {
			found++
		}
	}
	if found < samples/2 {
		t.Errorf("only %d of %d cross products say something", found, samples)
	}
	v, code := impl.CrossOfVectors(impl.Vector{4, 5, -6}, impl.Vector{1, 2, 3})
	wantValue(t, "CrossOfVectors", v, code, impl.Vector{27, -18, 3})
}
