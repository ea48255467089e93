package tests

import (
	"testing"

	"loop.example/g01214/impl"
)

// inField has n spinors s, couplings of 0, and a field.
func inField(s impl.Spinor, n int, field impl.Vector) impl.Chain {
	return impl.Chain{Spinors: repeatedSpinor(s, n), Couplings: make([]float32, n-1), Field: field}
}

// alignedCases have the spinors that come in the place of spinors.
var alignedCases = []struct {
	c    impl.Chain
	k    int64
	want impl.Spinor
}{
	{upDown, 0, down},
	{upDown, 1, down},
	{ofZeros, 0, up},
	{impl.Chain{Spinors: []impl.Spinor{up}, Field: impl.Vector{24, 0, -7}}, 0, spinorOf(4, -3, 0, 5)},
	{impl.Chain{Spinors: []impl.Spinor{up}, Field: impl.Vector{0, -24, 7}}, 0, spinorOf(3, 0, 4, 5)},
	{impl.Chain{Spinors: []impl.Spinor{plus}, Field: impl.Vector{-4, -4, 7}}, 0, spinorOf(1, 2, 2, 3)},
	{impl.Chain{Spinors: []impl.Spinor{plus, up}, Couplings: []float32{3}, Field: alongZ}, 0, down},
	{impl.Chain{Spinors: []impl.Spinor{plus, up}, Couplings: []float32{-3}, Field: alongZ}, 0, up},
	{impl.Chain{Spinors: []impl.Spinor{plus, up}, Couplings: []float32{-12}, Field: impl.Vector{0, 0, -7}}, 1, spinorOf(4, 3, 0, 5)},
	{impl.Chain{Spinors: []impl.Spinor{{1, i64}, down, plus}, Couplings: []float32{4, -2}, Field: impl.Vector{0, 0, -1}}, 1, spinorOf(5, 2, -4, 3*2.236068)},
	{impl.Chain{Spinors: []impl.Spinor{up, down, up}, Couplings: []float32{5, -4}}, 1, down},
	{impl.Chain{Spinors: []impl.Spinor{up, down, up}, Couplings: []float32{4, -5}}, 1, up},
	{inField(most, 1, alongX), 0, impl.Spinor{h, -h}},
	{inField(impl.Spinor{}, 16, impl.Vector{0, -1, 0}), 0, impl.Spinor{h, i64 * h}},
	{inField(impl.Spinor{}, 16, impl.Vector{0, 1, 0}), 15, impl.Spinor{h, -i64 * h}},
	// The sum of m and z is 0, though x is not.
	{inField(up, 2, impl.Vector{power(-13), 0, 1}), 1, down},
	{inField(down, 3, impl.Vector{0, 0, -power(-74)}), 1, up},
	{inField(plus, 1, impl.Vector{0, 0, power(63)}), 0, down},
}

// Promise 10, with spinors that are found without the program.
func TestAlignSpinor(t *testing.T) {
	for _, c := range alignedCases {
		want := copyOf(c.c)
		want.Spinors[c.k] = c.want
		made, code := impl.AlignSpinor(c.c, c.k)
		wantChain(t, "AlignSpinor", made, code, want)
	}
}

// standingChains have a local field of 0 at the spinor 1.
var standingChains = []impl.Chain{
	{Spinors: []impl.Spinor{up, plus}, Couplings: []float32{1}, Field: impl.Vector{0, 0, -1}},
	{Spinors: []impl.Spinor{up, most, down}, Couplings: []float32{7, 7}},
	{Spinors: []impl.Spinor{up, up, down, most}, Couplings: []float32{minusZero, 0, greatest}},
	{Spinors: []impl.Spinor{plus, {1, 2i}, {1, i64}}, Couplings: []float32{2, -1}, Field: impl.Vector{-4, 2, 0}},
	{Spinors: []impl.Spinor{up, up, down}, Couplings: []float32{greatest, greatest}, Field: impl.Vector{minusZero, 0, minusZero}},
	{Spinors: []impl.Spinor{{}, {minusPair, 2}, {}}, Couplings: []float32{greatest, -greatest}},
	// The products are below the least number, or make m or the norm 0.
	{Spinors: []impl.Spinor{{0.5, 0}, plus}, Couplings: []float32{at(1)}},
	{Spinors: []impl.Spinor{up, plus}, Couplings: []float32{power(-75)}},
	{Spinors: []impl.Spinor{up, plus}, Couplings: []float32{1.1 * power(-74)}},
	{Spinors: []impl.Spinor{{two(-75), two(-75)}, plus}, Couplings: []float32{greatest}},
}

func TestSpinorsThatStay(t *testing.T) {
	for _, c := range standingChains {
		made, code := impl.AlignSpinor(c, 1)
		wantChain(t, "AlignSpinor", made, code, c)
	}
	for _, v := range withoutDirection() {
		for _, s := range []impl.Spinor{up, {}, {3, complex(4, -at(1))}, {complex(at(1), minusZero), 5i}} {
			for _, n := range []int{1, 2, 3, 16} {
				c := inField(s, n, turnedRound(v))
				for k := range n {
					made, code := impl.AlignSpinor(c, int64(k))
					wantChain(t, "AlignSpinor", made, code, c)
				}
				for _, times := range []int64{0, 1, 20} {
					made, code := impl.SweepChain(c, times)
					wantChain(t, "SweepChain", made, code, c)
				}
			}
		}
	}
}

// The local field is found, but no spinor along it turned around.
func TestAlignSpinorAtTheLimit(t *testing.T) {
	for _, v := range tooLong() {
		for _, s := range []impl.Spinor{up, {}, {1, i64}} {
			for _, n := range []int{1, 2, 16} {
				c := inField(s, n, turnedRound(v))
				for k := range n {
					made, code := impl.AlignSpinor(c, int64(k))
					wantNoChain(t, "AlignSpinor", made, code, impl.ErrLimit)
				}
				for _, times := range []int64{1, 20} {
					made, code := impl.SweepChain(c, times)
					wantNoChain(t, "SweepChain", made, code, impl.ErrLimit)
				}
				made, code := impl.SweepChain(c, 0)
				wantChain(t, "SweepChain", made, code, c)
			}
		}
	}
}

func TestAlignSpinorExactly(t *testing.T) {
	s := &sampler{state: 187}
	codes, stays := map[int64]int{}, 0
	for _, c := range s.chains(25) {
		for k := range c.Spinors {
			r := &reckoner{}
			want, wantCode := r.aligned(c, k)
			made, code := impl.AlignSpinor(c, int64(k))
			wantChainOutcome(t, "AlignSpinor", made, code, want, wantCode)
			codes[code]++
			if code == impl.ErrNone && sameChain(made, c) {
				stays++
			}
		}
	}
	if codes[impl.ErrNone] < 1500 || codes[impl.ErrLimit] < 200 || stays < 30 {
		t.Errorf("AlignSpinor gave the codes %v, and %d spinors stay", codes, stays)
	}
}

// Promise 10: a spinor that is aligned is the one along the local field turned around. The local
// field does not change with it.
func TestAlignedSpinorsAreAlongTheLocalField(t *testing.T) {
	s := &sampler{state: 188}
	found := 0
	for _, c := range s.chains(60) {
		for k := range int64(len(c.Spinors)) {
			made, code := impl.AlignSpinor(c, k)
			if code != impl.ErrNone {
				continue
			}
			field, code := impl.LocalField(c, k)
			fieldAfter, codeAfter := impl.LocalField(made, k)
			along, codeAlong := impl.SpinorAlong(turnedRound(field))
			if code != impl.ErrNone || codeAfter != impl.ErrNone || field != fieldAfter {
				t.Errorf("LocalField(%v, %d) = %v, %d, and %v, %d behind AlignSpinor", c, k, field, code, fieldAfter, codeAfter)
			}
			if codeAlong == impl.ErrState {
				along = c.Spinors[k]
			} else {
				found++
			}
			if made.Spinors[k] != along {
				t.Errorf("AlignSpinor(%v, %d) has %v, want %v", c, k, made.Spinors[k], along)
			}
		}
	}
	if found < 3000 {
		t.Errorf("only %d spinors are aligned", found)
	}
}
