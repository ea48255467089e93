package tests

import (
	"slices"
	"testing"

	"loop.example/g01214/impl"
)

var (
	plus    = impl.Spinor{1, 1}
	upDown  = impl.Chain{Spinors: []impl.Spinor{up, down}, Couplings: []float32{1}, Field: impl.Vector{0, 0, 2}}
	three   = impl.Chain{Spinors: []impl.Spinor{up, down, plus}, Couplings: []float32{2, 3}, Field: impl.Vector{1, 2, 4}}
	ofZeros = impl.Chain{Spinors: []impl.Spinor{{minusPair, minusPair}}, Field: impl.Vector{minusZero, minusZero, -1}}
)

// The vector of large is (0, 0, 2^64), that of its opposite (0, 0, -2^64), that of lesser is
// (0, 0, 2^62), and tooGreat has none.
var (
	large     = impl.Spinor{two(32), 0}
	largeDown = impl.Spinor{0, two(32)}
	lesser    = impl.Spinor{two(31), 0}
	tooGreat  = impl.Spinor{two(64), 0}
)

// spoiltChains have a spinor without a vector at one of the places: a square, or the double of the
// product, is not finite.
func spoiltChains(n int) []impl.Chain {
	var list []impl.Chain
	more := complex(1.5*power(63), 0)
	for _, s := range []impl.Spinor{tooGreat, {0, i64 * two(64)}, most, {more, more}, {more, -i64 * more}, {two(-10), greatest}} {
		for k := range n {
			c := chainOf(up, n)
			c.Spinors[k] = s
			list = append(list, c)
		}
	}
	return list
}

func TestChainVectors(t *testing.T) {
	cases := []struct {
		c    impl.Chain
		want []impl.Vector
	}{
		{upDown, []impl.Vector{{0, 0, 1}, {0, 0, -1}}},
		{three, []impl.Vector{{0, 0, 1}, {0, 0, -1}, {2, 0, 0}}},
		{ofZeros, []impl.Vector{{}}},
		{impl.Chain{Spinors: []impl.Spinor{{complex(1, 2), complex(3, -1)}}}, []impl.Vector{{2, -14, -5}}},
		{impl.Chain{Spinors: []impl.Spinor{{two(63), two(62)}, large}, Couplings: []float32{greatest}}, []impl.Vector{{power(126), 0, 3 * power(124)}, {0, 0, power(64)}}},
		{impl.Chain{Spinors: []impl.Spinor{{two(-75), two(-75)}, {two(-74), 0}}, Couplings: []float32{0}}, []impl.Vector{{}, {0, 0, at(2)}}},
		{chainOf(impl.Spinor{1, i64}, 16), slices.Repeat([]impl.Vector{{0, 2, 0}}, 16)},
	}
	for _, c := range cases {
		vectors, code := impl.ChainVectors(c.c)
		wantList(t, "ChainVectors", vectors, code, c.want)
	}
}

func TestChainVectorsAtTheLimit(t *testing.T) {
	for n := 1; n <= 16; n++ {
		for _, c := range spoiltChains(n) {
			vectors, code := impl.ChainVectors(c)
			wantNoList(t, "ChainVectors", vectors, code, impl.ErrLimit)
		}
	}
}

func TestChainVectorsExactly(t *testing.T) {
	s := &sampler{state: 183}
	codes := map[int64]int{}
	for _, c := range s.chains(25) {
		r := &reckoner{}
		want, wantCode := ended(r, r.vectorsOfSpinors(c.Spinors))
		if r.failed {
			wantCode = impl.ErrLimit
		}
		vectors, code := impl.ChainVectors(c)
		wantListOutcome(t, "ChainVectors", vectors, code, want, wantCode)
		codes[code]++
	}
	if codes[impl.ErrNone] < 200 || codes[impl.ErrLimit] < 20 {
		t.Errorf("ChainVectors gave the codes %v", codes)
	}
}

func TestChainEnergy(t *testing.T) {
	ups := repeatedSpinor(up, 4)
	cases := []struct {
		c    impl.Chain
		want float32
	}{
		{upDown, -1},
		// -2 and 0 for the couplings, and 4, -4 and 2 for the field.
		{three, 0},
		{ofZeros, 0},
		{impl.Chain{Spinors: ups[:1], Field: impl.Vector{5, 6, 7}}, 7},
		{impl.Chain{Spinors: []impl.Spinor{plus}, Field: impl.Vector{5, 6, 7}}, 10},
		{impl.Chain{Spinors: []impl.Spinor{plus, {1, i64}, {1, -i64}}, Couplings: []float32{7, 0.5}, Field: alongY}, -2},
		{impl.Chain{Spinors: []impl.Spinor{{1, complex(1, 1)}, plus}, Couplings: []float32{0.5}}, 2},
		{chainOf(up, 16), 31},
		{chainOf(down, 16), -1},
		// The sum is compensated, and has the couplings ahead of the field.
		{impl.Chain{Spinors: ups, Couplings: []float32{1, 1e10, -1e10}}, 1},
		{impl.Chain{Spinors: ups, Couplings: []float32{1e10, 1, -1e10}}, 1},
		{impl.Chain{Spinors: ups[:2], Couplings: []float32{greatest}, Field: impl.Vector{0, 0, -greatest}}, -greatest},
		{impl.Chain{Spinors: ups[:2], Couplings: []float32{-greatest}, Field: impl.Vector{0, 0, greatest / 2}}, 0},
		// Products below the least number are 0, and others below the normal ones are rounded.
		{impl.Chain{Spinors: ups[:2], Couplings: []float32{at(3)}, Field: impl.Vector{0, 0, at(1)}}, at(5)},
		{impl.Chain{Spinors: []impl.Spinor{up, {0.5, 0}}, Couplings: []float32{at(1)}}, 0},
		{impl.Chain{Spinors: []impl.Spinor{up, {0.5, 0}}, Couplings: []float32{at(3)}}, at(1)},
		{impl.Chain{Spinors: repeatedSpinor(impl.Spinor{two(-38), 0}, 2), Couplings: []float32{greatest}}, 0},
		// Great dots.
		{impl.Chain{Spinors: []impl.Spinor{lesser, large}, Couplings: []float32{1}}, power(126)},
		{impl.Chain{Spinors: []impl.Spinor{lesser, large}, Couplings: []float32{minusZero}}, 0},
	}
	for _, c := range cases {
		x, code := impl.ChainEnergy(c.c)
		wantValue(t, "ChainEnergy", x, code, c.want)
	}
}

func TestChainEnergyAtTheLimit(t *testing.T) {
	list := []impl.Chain{
		// A dot is not finite, even if the coupling is 0.
		{Spinors: []impl.Spinor{large, large}, Couplings: []float32{0}},
		{Spinors: []impl.Spinor{up, large, largeDown}, Couplings: []float32{1, 0}},
		// The product of a coupling and a dot, or the dot of the field and a vector, is not finite.
		{Spinors: []impl.Spinor{lesser, large}, Couplings: []float32{4}},
		{Spinors: []impl.Spinor{lesser, up, up}, Couplings: []float32{greatest, 1}, Field: impl.Vector{0, 0, -greatest}},
		{Spinors: []impl.Spinor{plus}, Field: impl.Vector{greatest, 0, 0}},
		{Spinors: []impl.Spinor{up, {1, complex(0.5, 0.5)}}, Couplings: []float32{0}, Field: impl.Vector{greatest, greatest, -greatest}},
		// The sum is not finite, if only on the way.
		{Spinors: []impl.Spinor{up, down, up}, Couplings: []float32{greatest, greatest}},
		{Spinors: []impl.Spinor{up, up}, Couplings: []float32{greatest}, Field: impl.Vector{0, 0, power(103)}},
		{Spinors: repeatedSpinor(up, 5), Couplings: []float32{greatest, greatest, -greatest, -greatest}},
	}
	for n := 1; n <= 16; n++ {
		list = append(list, spoiltChains(n)...)
	}
	for _, c := range list {
		x, code := impl.ChainEnergy(c)
		wantNone(t, "ChainEnergy", x, code, impl.ErrLimit)
	}
}

func TestChainEnergyExactly(t *testing.T) {
	s := &sampler{state: 184}
	codes := map[int64]int{}
	for _, c := range s.chains(40) {
		r := &reckoner{}
		want := r.chainEnergy(c)
		x, code := impl.ChainEnergy(c)
		wantReckoned(t, r, "ChainEnergy", x, code, want)
		codes[code]++
	}
	if codes[impl.ErrNone] < 300 || codes[impl.ErrLimit] < 50 {
		t.Errorf("ChainEnergy gave the codes %v", codes)
	}
}
