package tests

import (
	"testing"

	"loop.example/g01214/impl"
)

func TestCorrelationOf(t *testing.T) {
	third := float32(1) / 3
	cases := []struct {
		c    impl.Chain
		d    int64
		want float32
	}{
		{upDown, 0, 1},
		{upDown, 1, -1},
		{three, 0, 2},
		{three, 1, -0.5},
		{three, 2, 0},
		{ofZeros, 0, 0},
		{coupledBy0(up, down, up), 1, -1},
		{coupledBy0(up, down, up), 2, 1},
		{coupledBy0(up, plus), 0, 2.5},
		{coupledBy0(up, plus, plus, plus, down), 1, 2},
		{coupledBy0(up, plus, plus, plus, down), 2, 2 * 2 * third},
		{coupledBy0(up, plus, plus, plus, down), 4, -1},
		// The quotient is rounded.
		{coupledBy0(up, up, impl.Spinor{}), 0, 2 * third},
		{coupledBy0(up, up, down, down), 1, third},
		{coupledBy0(up, up, up, down), 1, third},
		{coupledBy0(up, up, up, up, up, up, up, down), 1, float32(5) / 7},
		// The sum is compensated: 2^24, 1 and 1, in any order.
		{coupledBy0(impl.Spinor{64, 0}, up, up), 0, (1<<24 + 2) / 3},
		{coupledBy0(up, up, impl.Spinor{0, 64}), 0, (1<<24 + 2) / 3},
		{coupledBy0(up, impl.Spinor{0, 64}, up), 0, (1<<24 + 2) / 3},
		{coupledBy0(up, up, impl.Spinor{4096, 0}, impl.Spinor{0, 1}), 1, third},
		{coupledBy0(impl.Spinor{4096, 0}, up, down, impl.Spinor{4096, 0}), 2, 0},
		// Dots below the normal numbers, and below the least one.
		{coupledBy0(impl.Spinor{two(-37), 0}), 0, at(2)},
		{coupledBy0(impl.Spinor{two(-37), 0}, impl.Spinor{two(-37), 0}, impl.Spinor{}), 0, at(1)},
		{coupledBy0(impl.Spinor{two(-37), 0}, impl.Spinor{}, impl.Spinor{}, impl.Spinor{}), 0, 0},
		{coupledBy0(impl.Spinor{two(-38), 0}, large), 1, power(-12)},
		{coupledBy0(impl.Spinor{two(-38), 0}, impl.Spinor{two(-38), 0}), 1, 0},
		{coupledBy0(impl.Spinor{two(-75), two(-75)}, large), 1, 0},
		// Great ones: neither is the dot of large and itself asked for, nor are couplings and field.
		{coupledBy0(lesser, large), 1, power(126)},
		{coupledBy0(large, up, largeDown, up), 1, -power(64) / 3},
		{impl.Chain{Spinors: []impl.Spinor{up, up}, Couplings: []float32{greatest}, Field: endless}, 0, 1},
	}
	for _, c := range cases {
		x, code := impl.CorrelationOf(c.c, c.d)
		wantValue(t, "CorrelationOf", x, code, c.want)
	}
}

func TestCorrelationOfAllDistances(t *testing.T) {
	for n := 1; n <= 16; n++ {
		c := coupledBy0(repeatedSpinor(up, n)...)
		for d := range n {
			x, code := impl.CorrelationOf(c, int64(d))
			wantValue(t, "CorrelationOf", x, code, 1)
		}
		// One of the dots is -1, and the others are 1.
		c.Spinors[0] = down
		for d := 1; d < n; d++ {
			x, code := impl.CorrelationOf(c, int64(d))
			wantValue(t, "CorrelationOf", x, code, float32(n-d-2)/float32(n-d))
		}
	}
}

func TestCorrelationOfAtTheLimit(t *testing.T) {
	cases := []struct {
		c impl.Chain
		d int64
	}{
		// A dot is not finite.
		{coupledBy0(large), 0}, {coupledBy0(large, up), 0}, {coupledBy0(large, largeDown), 1}, {coupledBy0(wide), 0}, {coupledBy0(up, wide, up, wide), 2},
		// Only the sum is not finite, though what it is divided by would make up for it.
		{coupledBy0(repeatedSpinor(lesser, 16)...), 0},
		{coupledBy0(lesser, large, largeDown, lesser, lesser, large, large, lesser, large, lesser), 1},
	}
	for _, c := range cases {
		x, code := impl.CorrelationOf(c.c, c.d)
		wantNone(t, "CorrelationOf", x, code, impl.ErrLimit)
	}
	x, code := impl.CorrelationOf(coupledBy0(repeatedSpinor(lesser, 15)...), 0)
	wantValue(t, "CorrelationOf", x, code, power(124))
	// The vectors of all spinors are found, even if they are not asked for.
	for n := 1; n <= 16; n++ {
		for _, c := range spoiltChains(n) {
			for d := range int64(n) {
				x, code := impl.CorrelationOf(c, d)
				wantNone(t, "CorrelationOf", x, code, impl.ErrLimit)
			}
		}
	}
}

func TestCorrelationOfExactly(t *testing.T) {
	s := &sampler{state: 193}
	codes := map[int64]int{}
	for _, c := range s.chains(20) {
		for _, d := range []int{0, len(c.Spinors) - 1, int(s.next(int64(len(c.Spinors))))} {
			r := &reckoner{}
			want := r.correlation(c, d)
			x, code := impl.CorrelationOf(c, int64(d))
			wantReckoned(t, r, "CorrelationOf", x, code, want)
			codes[code]++
		}
	}
	if codes[impl.ErrNone] < 500 || codes[impl.ErrLimit] < 60 {
		t.Errorf("CorrelationOf gave the codes %v", codes)
	}
}
