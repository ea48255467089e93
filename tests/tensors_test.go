package tests

import (
	"testing"

	"loop.example/g01214/impl"
)

func TestTensorOf(t *testing.T) {
	low, tiny := complex(power(-75), 0), complex(at(1), 0)
	cases := []struct {
		s, t impl.Spinor
		want impl.Pair
	}{
		{impl.Spinor{}, impl.Spinor{greatest, i64}, impl.Pair{}},
		{impl.Spinor{minusPair, 0}, impl.Spinor{1, minusPair}, impl.Pair{}},
		{impl.Spinor{1, 0}, impl.Spinor{1, 0}, impl.Pair{1, 0, 0, 0}},
		{impl.Spinor{1, 0}, impl.Spinor{0, 1}, impl.Pair{0, 1, 0, 0}},
		{impl.Spinor{0, 1}, impl.Spinor{1, 0}, impl.Pair{0, 0, 1, 0}},
		{impl.Spinor{0, 1}, impl.Spinor{0, 1}, impl.Pair{0, 0, 0, 1}},
		{impl.Spinor{2, 3}, impl.Spinor{5, 7}, impl.Pair{10, 14, 15, 21}},
		{impl.Spinor{i64, complex(1, 1)}, impl.Spinor{complex(2, 1), i64}, impl.Pair{complex(-1, 2), -1, complex(1, 3), complex(-1, 1)}},
		{impl.Spinor{4097, 1}, impl.Spinor{4097, complex(0, 4097)}, impl.Pair{4096 * 4098, complex(0, 4096*4098), 4097, complex(0, 4097)}},
		{impl.Spinor{low, 1}, impl.Spinor{low, 1}, impl.Pair{0, low, low, 1}},
		{impl.Spinor{0.5, 0.75}, impl.Spinor{tiny, complex(0, at(3))}, impl.Pair{0, complex(0, at(2)), tiny, complex(0, at(2))}},
		{impl.Spinor{greatest, 1}, impl.Spinor{1, -1}, impl.Pair{greatest, -greatest, 1, -1}},
	}
	for _, c := range cases {
		p, code := impl.TensorOf(c.s, c.t)
		wantValue(t, "TensorOf", p, code, c.want)
	}
}

func TestTensorOfAtTheLimit(t *testing.T) {
	big := complex(power(64), 0)
	for i := range 2 {
		for j := range 2 {
			for _, z := range [][2]complex64{{big, big}, {big, i64 * big}, {-i64 * big, big}, {greatest, 2}, {complex(2, 1), -greatest}} {
				var s, u impl.Spinor
				s[i], u[j] = z[0], z[1]
				p, code := impl.TensorOf(s, u)
				wantNone(t, "TensorOf", p, code, impl.ErrLimit)
			}
		}
	}
}

func TestTensorOfExactly(t *testing.T) {
	s := &sampler{state: 120}
	for range samples {
		v, r := s.spinors(2), &reckoner{}
		want := r.tensor(v[0], v[1])
		p, code := impl.TensorOf(v[0], v[1])
		wantReckoned(t, r, "TensorOf", p, code, want)
	}
}

func TestSwapPair(t *testing.T) {
	cases := [][2]impl.Pair{
		{{}, {}},
		{{1, 2, 3, 4}, {1, 3, 2, 4}},
		{{i64, minusPair, greatest, complex(at(1), -at(2))}, {i64, greatest, 0, complex(at(1), -at(2))}},
		{pairWith(2, at(1), greatest), pairWith(4, at(1), greatest)},
		{pairWith(5, -at(1), 0), pairWith(3, -at(1), 0)},
	}
	for _, c := range cases {
		p, code := impl.SwapPair(c[0])
		wantValue(t, "SwapPair", p, code, c[1])
	}
}

// The guarantee of chapter 7: swapped pairs come back.
func TestSwappedPairsComeBack(t *testing.T) {
	for _, p := range somePairs(&sampler{state: 121}, samples) {
		swapped, code := impl.SwapPair(p)
		wantValue(t, "SwapPair", swapped, code, exchangedInside(p))
		back, code := impl.SwapPair(swapped)
		wantValue(t, "SwapPair", back, code, p)
	}
}

// The guarantee of chapter 7: tensors swapped are those in the other order.
func TestSwappedTensors(t *testing.T) {
	s := &sampler{state: 122}
	good, found := goodSpinors(), 0
	for range samples {
		v := s.spinors(2)
		if s.next(20) == 0 {
			v[1] = good[s.next(int64(len(good)))]
		}
		p, code := impl.TensorOf(v[0], v[1])
		q, codeOther := impl.TensorOf(v[1], v[0])
		if code != codeOther {
			t.Errorf("TensorOf of %v: the codes %d and %d", v, code, codeOther)
		}
		if code != impl.ErrNone {
			continue
		}
		swapped, code := impl.SwapPair(p)
		wantValue(t, "SwapPair", swapped, code, q)
		if p[1] != p[2] {
			found++
		}
	}
	if found < samples/3 {
		t.Errorf("only %d of %d tensors say something", found, samples)
	}
}
