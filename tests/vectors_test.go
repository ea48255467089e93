package tests

import (
	"testing"

	"loop.example/g01214/impl"
)

func vectorWith(i int, x, rest float32) impl.Vector {
	v := impl.Vector{rest, rest, rest}
	v[i] = x
	return v
}

func TestVectorsRefuseWhatIsNoNumber(t *testing.T) {
	for _, x := range badParts {
		for i := range 3 {
			for _, rest := range []float32{0, 1, greatest, x} {
				bad := vectorWith(i, x, rest)
				for _, other := range []impl.Vector{{}, {1, 2, 3}, {greatest, greatest, greatest}, bad} {
					for _, pair := range [][2]impl.Vector{{bad, other}, {other, bad}} {
						sum, code := impl.AddVectors(pair[0], pair[1])
						wantNone(t, "AddVectors", sum, code, impl.ErrInvalid)
						dot, code := impl.DotVectors(pair[0], pair[1])
						wantNone(t, "DotVectors", dot, code, impl.ErrInvalid)
					}
				}
			}
		}
	}
}

func TestAddVectors(t *testing.T) {
	cases := [][3]impl.Vector{
		{{1, 2, 3}, {10, -20, 30}, {11, -18, 33}},
		{{}, {minusZero, 0, minusZero}, {}},
		{{at(1), at(1<<23 - 1), -at(1)}, {at(1), at(1), at(1)}, {at(2), at(1 << 23), 0}},
		{{1 << 24, 1<<24 + 2, -1 << 24}, {1, 1, -1}, {1 << 24, 1<<24 + 4, -1 << 24}},
		{{greatest, -greatest, greatest}, {power(102), -power(102), -greatest}, {greatest, -greatest, 0}},
	}
	for _, c := range cases {
		v, code := impl.AddVectors(c[0], c[1])
		wantValue(t, "AddVectors", v, code, c[2])
	}
	for i := range 3 {
		for _, sign := range []float32{1, -1} {
			v, code := impl.AddVectors(vectorWith(i, sign*greatest, 1), vectorWith(i, sign*power(103), 1))
			wantNone(t, "AddVectors", v, code, impl.ErrLimit)
		}
	}
}

func TestDotVectors(t *testing.T) {
	cases := []struct {
		v, w impl.Vector
		want float32
	}{
		{impl.Vector{1, 2, 3}, impl.Vector{4, -5, 6}, 12},
		{impl.Vector{}, impl.Vector{greatest, -greatest, minusZero}, 0},
		{impl.Vector{1, 1, 1}, impl.Vector{1 << 24, 1, 1}, 1 << 24},
		{impl.Vector{1, 1, 1}, impl.Vector{1, 1, 1 << 24}, 1<<24 + 2},
		{impl.Vector{1, 1, 1}, impl.Vector{1, 1 << 24, 1}, 1 << 24},
		// Each product is rounded before it is added.
		{impl.Vector{4097, 4096, 0}, impl.Vector{4097, -4098, 1}, 0},
		{impl.Vector{4096, 4097, 0}, impl.Vector{-4098, 4097, 1}, 0},
		{impl.Vector{0, 4096, 4097}, impl.Vector{1, -4098, 4097}, 0},
		{impl.Vector{power(-75), power(-75), power(-75)}, impl.Vector{power(-75), power(-75), power(-75)}, 0},
		{impl.Vector{power(-75), power(-75), 1.5 * power(-75)}, impl.Vector{power(-75), power(-75), power(-75)}, power(-149)},
		{impl.Vector{greatest, power(102), 0}, impl.Vector{1, 1, 1}, greatest},
		{impl.Vector{greatest, -greatest, greatest}, impl.Vector{1, 1, 1}, greatest},
		{impl.Vector{power(64), 1, 1}, impl.Vector{power(63), -power(127), 5}, 5},
	}
	for _, c := range cases {
		x, code := impl.DotVectors(c.v, c.w)
		wantValue(t, "DotVectors", x, code, c.want)
		x, code = impl.DotVectors(c.w, c.v)
		wantValue(t, "DotVectors", x, code, c.want)
	}
}

func TestDotVectorsAtTheLimit(t *testing.T) {
	big := power(64)
	cases := [][2]impl.Vector{
		{{big, 0, 0}, {big, 0, 0}}, {{0, big, 0}, {1, big, 0}}, {{0, 0, big}, {0, 0, -big}},
		{{big, big, 0}, {big, -big, 0}}, {{0, big, big}, {0, -big, big}}, {{big, 0, big}, {-big, 0, big}},
		{{greatest, greatest, greatest}, {1, 1, -1}}, {{1, -greatest, greatest}, {-greatest, 1, 1}},
		{{greatest, power(103), 0}, {1, 1, 0}}, {{0, greatest, power(103)}, {0, 1, 1}},
	}
	for _, c := range cases {
		x, code := impl.DotVectors(c[0], c[1])
		wantNone(t, "DotVectors", x, code, impl.ErrLimit)
	}
}

func TestVectorsExactly(t *testing.T) {
	s := &sampler{state: 33}
	for range samples {
		v, w := s.vectors()
		r := &reckoner{}
		want := impl.Vector{r.add(v[0], w[0]), r.add(v[1], w[1]), r.add(v[2], w[2])}
		sum, code := impl.AddVectors(v, w)
		wantReckoned(t, r, "AddVectors", sum, code, want)
		r = &reckoner{}
		dot := r.add(r.add(r.times(v[0], w[0]), r.times(v[1], w[1])), r.times(v[2], w[2]))
		x, code := impl.DotVectors(v, w)
		wantReckoned(t, r, "DotVectors", x, code, dot)
	}
}
