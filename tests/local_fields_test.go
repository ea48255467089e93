package tests

import (
	"testing"

	"loop.example/g01214/impl"
)

func TestLocalField(t *testing.T) {
	cases := []struct {
		c    impl.Chain
		k    int64
		want impl.Vector
	}{
		{upDown, 0, impl.Vector{0, 0, 1}},
		{upDown, 1, impl.Vector{0, 0, 3}},
		{three, 0, impl.Vector{1, 2, 2}},
		{three, 1, impl.Vector{7, 2, 6}},
		{three, 2, impl.Vector{1, 2, 1}},
		{ofZeros, 0, impl.Vector{0, 0, -1}},
		{impl.Chain{Spinors: []impl.Spinor{up}, Field: impl.Vector{greatest, -greatest, at(1)}}, 0, impl.Vector{greatest, -greatest, at(1)}},
		{chainOf(plus, 16), 0, impl.Vector{2, 0, 1}},
		{chainOf(plus, 16), 1, impl.Vector{4, 0, 1}},
		{chainOf(plus, 16), 15, impl.Vector{2, 0, 1}},
		// The local field is 0.
		{impl.Chain{Spinors: []impl.Spinor{up, down}, Couplings: []float32{1}, Field: alongZ}, 0, impl.Vector{}},
		{impl.Chain{Spinors: []impl.Spinor{up, plus, down}, Couplings: []float32{7, 7}}, 1, impl.Vector{}},
		{impl.Chain{Spinors: []impl.Spinor{up, up}, Couplings: []float32{minusZero}}, 1, impl.Vector{}},
		// The one before is added first, and each sum is rounded.
		{impl.Chain{Spinors: []impl.Spinor{up, plus, up}, Couplings: []float32{1, 1}, Field: impl.Vector{0, 0, 1 << 24}}, 1, impl.Vector{0, 0, 1 << 24}},
		{impl.Chain{Spinors: []impl.Spinor{up, plus, up}, Couplings: []float32{2, 1}, Field: impl.Vector{0, 0, 1 << 24}}, 1, impl.Vector{0, 0, 1<<24 + 4}},
		{impl.Chain{Spinors: []impl.Spinor{up, plus, up}, Couplings: []float32{1, 2}, Field: impl.Vector{0, 0, 1 << 24}}, 1, impl.Vector{0, 0, 1<<24 + 2}},
		{impl.Chain{Spinors: []impl.Spinor{up, plus, up}, Couplings: []float32{-1 << 24, 1}, Field: impl.Vector{0, 0, 1}}, 1, impl.Vector{0, 0, -1<<24 + 2}},
		{impl.Chain{Spinors: []impl.Spinor{up, plus, up}, Couplings: []float32{1, -1 << 24}, Field: impl.Vector{0, 0, 1}}, 1, impl.Vector{0, 0, -1<<24 + 2}},
		{impl.Chain{Spinors: []impl.Spinor{up, plus, up}, Couplings: []float32{-greatest, greatest}, Field: impl.Vector{0, 0, greatest}}, 1, impl.Vector{0, 0, greatest}},
		// A product is rounded before it is added.
		{impl.Chain{Spinors: []impl.Spinor{plus, {1 + two(-12), 0}}, Couplings: []float32{1 + power(-13)}, Field: impl.Vector{0, 0, -1}}, 0, impl.Vector{0, 0, power(-11) + power(-13)}},
		{impl.Chain{Spinors: []impl.Spinor{plus, {0.5, 0}}, Couplings: []float32{at(2)}, Field: impl.Vector{0, 0, at(1)}}, 0, impl.Vector{0, 0, at(1)}},
		{impl.Chain{Spinors: []impl.Spinor{plus, {0.5, 0}}, Couplings: []float32{at(3)}, Field: impl.Vector{0, 0, at(1)}}, 0, impl.Vector{0, 0, at(2)}},
		// Squares that are 0.
		{impl.Chain{Spinors: []impl.Spinor{plus, {two(-75), two(-75)}}, Couplings: []float32{greatest}, Field: alongX}, 0, alongX},
		// The spinor itself, and those that are no neighbours, need no vectors.
		{impl.Chain{Spinors: []impl.Spinor{most}, Field: alongX}, 0, alongX},
		{impl.Chain{Spinors: []impl.Spinor{most, up, most, most}, Couplings: []float32{5, 3, greatest}, Field: alongX}, 0, impl.Vector{1, 0, 5}},
		{impl.Chain{Spinors: []impl.Spinor{most, up, most, down, most}, Couplings: []float32{greatest, 3, 2, greatest}, Field: alongX}, 2, impl.Vector{1, 0, 1}},
		{impl.Chain{Spinors: []impl.Spinor{most, up, most}, Couplings: []float32{5, 3}, Field: alongX}, 2, impl.Vector{1, 0, 3}},
	}
	for _, c := range cases {
		field, code := impl.LocalField(c.c, c.k)
		wantValue(t, "LocalField", field, code, c.want)
	}
}

func TestLocalFieldAtTheLimit(t *testing.T) {
	cases := []struct {
		c impl.Chain
		k int64
	}{
		// A product is not finite, even if the sum would be 0.
		{impl.Chain{Spinors: []impl.Spinor{up, large}, Couplings: []float32{power(64)}}, 0},
		{impl.Chain{Spinors: []impl.Spinor{large, up}, Couplings: []float32{-power(64)}}, 1},
		{impl.Chain{Spinors: []impl.Spinor{plus, up}, Couplings: []float32{greatest}, Field: alongZ}, 1},
		{impl.Chain{Spinors: []impl.Spinor{large, up, largeDown}, Couplings: []float32{power(64), power(64)}}, 1},
		{impl.Chain{Spinors: []impl.Spinor{plus, up, {1, -1}}, Couplings: []float32{greatest, greatest}}, 1},
		// A sum is not finite, if only on the way.
		{impl.Chain{Spinors: []impl.Spinor{up, up}, Couplings: []float32{greatest}, Field: impl.Vector{0, 0, greatest}}, 0},
		{impl.Chain{Spinors: []impl.Spinor{up, plus, down}, Couplings: []float32{greatest, greatest}, Field: impl.Vector{0, 0, greatest}}, 1},
		{impl.Chain{Spinors: []impl.Spinor{up, plus, up}, Couplings: []float32{greatest, power(103)}}, 1},
		{impl.Chain{Spinors: []impl.Spinor{{1, i64}, plus}, Couplings: []float32{power(126)}, Field: impl.Vector{0, power(127), 0}}, 1},
	}
	for _, c := range cases {
		field, code := impl.LocalField(c.c, c.k)
		wantNone(t, "LocalField", field, code, impl.ErrLimit)
	}
}

// The neighbours of a spinor need vectors, even if the couplings are 0; no other spinor does.
func TestNeighboursNeedVectors(t *testing.T) {
	for n := 1; n <= 16; n++ {
		for i, c := range spoiltChains(n) {
			spoilt := i % n
			for m := range c.Couplings {
				c.Couplings[m] = 0
			}
			for k := range n {
				field, code := impl.LocalField(c, int64(k))
				made, alignedCode := impl.AlignSpinor(c, int64(k))
				if k == spoilt-1 || k == spoilt+1 {
					wantNone(t, "LocalField", field, code, impl.ErrLimit)
					wantNoChain(t, "AlignSpinor", made, alignedCode, impl.ErrLimit)
					continue
				}
				want := copyOf(c)
				want.Spinors[k] = down
				wantValue(t, "LocalField", field, code, alongZ)
				wantChain(t, "AlignSpinor", made, alignedCode, want)
			}
		}
	}
}

func TestLocalFieldExactly(t *testing.T) {
	s := &sampler{state: 185}
	codes := map[int64]int{}
	for _, c := range s.chains(25) {
		for k := range c.Spinors {
			r := &reckoner{}
			want := r.localField(c, k)
			field, code := impl.LocalField(c, int64(k))
			wantReckoned(t, r, "LocalField", field, code, want)
			codes[code]++
		}
	}
	if codes[impl.ErrNone] < 1500 || codes[impl.ErrLimit] < 100 {
		t.Errorf("LocalField gave the codes %v", codes)
	}
}
