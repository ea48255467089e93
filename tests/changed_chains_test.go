package tests

import (
	"slices"
	"testing"

	"loop.example/g01214/impl"
)

func TestTurnChain(t *testing.T) {
	flip := impl.Turn{{0, 1}, {1, 0}}
	cases := []struct {
		a    impl.Turn
		c    impl.Chain
		want []impl.Spinor
	}{
		{flip, upDown, []impl.Spinor{down, up}},
		{unit, three, []impl.Spinor{up, down, plus}},
		{impl.Turn{}, three, []impl.Spinor{{}, {}, {}}},
		{halfY, three, []impl.Spinor{down, {-1, 0}, {-1, 1}}},
		{impl.Turn{{1, 2}, {i64, 3}}, three, []impl.Spinor{{1, i64}, {2, 3}, {3, complex(3, 1)}}},
		{flip, ofZeros, []impl.Spinor{{}}},
		{unit, inField(most, 16, endless), repeatedSpinor(most, 16)},
		{flip, coupledBy0(impl.Spinor{complex(at(1), greatest), complex(minusZero, -at(3))}), []impl.Spinor{{complex(0, -at(3)), complex(at(1), greatest)}}},
		{impl.Turn{{0.5, 0}, {0, two(-75)}}, coupledBy0(impl.Spinor{complex(at(3), 0), two(-75)}), []impl.Spinor{{complex(at(2), 0), 0}}},
	}
	for _, c := range cases {
		made, code := impl.TurnChain(c.a, c.c)
		wantChain(t, "TurnChain", made, code, impl.Chain{Spinors: c.want, Couplings: c.c.Couplings, Field: c.c.Field})
	}
}

// Only one of the spinors, at any place, is turned beyond the numbers.
func TestTurnChainAtTheLimit(t *testing.T) {
	for n := 1; n <= 16; n++ {
		for k := range n {
			for part := range 4 {
				c := chainOf(up, n)
				c.Spinors[k] = spinorWith(part, greatest, 0)
				for _, a := range []impl.Turn{{{2, 2}, {0, 0}}, {{0, 0}, {2, -2}}, {{-1.5i, 1.5}, {1, 1}}} {
					made, code := impl.TurnChain(a, c)
					wantNoChain(t, "TurnChain", made, code, impl.ErrLimit)
				}
			}
		}
	}
}

func TestTurnChainExactly(t *testing.T) {
	s := &sampler{state: 194}
	codes := map[int64]int{}
	for _, c := range s.chains(30) {
		a, r := s.anyTables(1)[0], &reckoner{}
		want, wantCode := r.turnedChain(a, c)
		if r.failed {
			wantCode = impl.ErrLimit
		}
		made, code := impl.TurnChain(a, c)
		wantChainOutcome(t, "TurnChain", made, code, want, wantCode)
		codes[code]++
	}
	if codes[impl.ErrNone] < 250 || codes[impl.ErrLimit] < 30 {
		t.Errorf("TurnChain gave the codes %v", codes)
	}
}

func TestFlipSpinor(t *testing.T) {
	cases := []struct {
		c    impl.Chain
		k    int64
		want impl.Spinor
	}{
		{upDown, 0, down},
		{upDown, 1, impl.Spinor{-1, 0}},
		{three, 2, impl.Spinor{-1, 1}},
		{ofZeros, 0, impl.Spinor{}},
		{coupledBy0(up, impl.Spinor{complex(1, 2), complex(3, 4)}), 1, impl.Spinor{complex(-3, 4), complex(1, -2)}},
		{inField(most, 16, endless), 15, impl.Spinor{-greatest, greatest}},
		{inField(impl.Spinor{complex(at(1), -at(3)), complex(greatest, minusZero)}, 16, endless), 0, impl.Spinor{-greatest, complex(at(1), at(3))}},
	}
	for _, c := range cases {
		want := copyOf(c.c)
		want.Spinors[c.k] = c.want
		made, code := impl.FlipSpinor(c.c, c.k)
		wantChain(t, "FlipSpinor", made, code, want)
	}
}

// The guarantee of chapter 10: flips twice change the spinor to its opposite sign, and nothing else.
func TestFlipsTwice(t *testing.T) {
	for _, c := range goodChains() {
		for k := range int64(len(c.Spinors)) {
			once, code := impl.FlipSpinor(c, k)
			want := copyOf(c)
			want.Spinors[k] = oppositeFor(c.Spinors[k])
			wantChain(t, "FlipSpinor", once, code, want)
			twice, code := impl.FlipSpinor(once, k)
			want.Spinors[k] = impl.Spinor{-c.Spinors[k][0], -c.Spinors[k][1]}
			wantChain(t, "FlipSpinor twice", twice, code, want)
		}
	}
}

func TestReverseChain(t *testing.T) {
	cases := []struct{ c, want impl.Chain }{
		{upDown, impl.Chain{Spinors: []impl.Spinor{down, up}, Couplings: []float32{1}, Field: impl.Vector{0, 0, 2}}},
		{three, impl.Chain{Spinors: []impl.Spinor{plus, down, up}, Couplings: []float32{3, 2}, Field: impl.Vector{1, 2, 4}}},
		{ofZeros, ofZeros},
		{inField(most, 16, endless), inField(most, 16, endless)},
		{
			impl.Chain{Spinors: []impl.Spinor{up, most, {1, 2}, {}}, Couplings: []float32{greatest, at(1), -5}, Field: alongY},
			impl.Chain{Spinors: []impl.Spinor{{}, {1, 2}, most, up}, Couplings: []float32{-5, at(1), greatest}, Field: alongY},
		},
	}
	for _, c := range cases {
		made, code := impl.ReverseChain(c.c)
		wantChain(t, "ReverseChain", made, code, c.want)
	}
}

// The guarantee of chapter 10: reversed twice a chain is itself.
func TestReversedTwice(t *testing.T) {
	for _, c := range goodChains() {
		want := copyOf(c)
		slices.Reverse(want.Spinors)
		slices.Reverse(want.Couplings)
		once, code := impl.ReverseChain(c)
		wantChain(t, "ReverseChain", once, code, want)
		twice, code := impl.ReverseChain(once)
		wantChain(t, "ReverseChain twice", twice, code, c)
	}
}
