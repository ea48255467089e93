package tests

import (
	"slices"
	"testing"

	"loop.example/g01214/impl"
)

func wantSwept(t *testing.T, c impl.Chain, times int64, want ...impl.Spinor) {
	t.Helper()
	made, code := impl.SweepChain(c, times)
	wantChain(t, "SweepChain", made, code, impl.Chain{Spinors: want, Couplings: c.Couplings, Field: c.Field})
}

func TestSweepChain(t *testing.T) {
	minusZeros := impl.Spinor{minusPair, complex(3, minusZero)}
	for _, times := range []int64{1, 2, 20} {
		wantSwept(t, upDown, times, down, down)
		wantSwept(t, ofZeros, times, up)
		wantSwept(t, inField(most, 1, alongX), times, impl.Spinor{h, -h})
		wantSwept(t, inField(impl.Spinor{}, 16, alongZ), times, repeatedSpinor(down, 16)...)
		// Spinors are aligned by couplings alone.
		wantSwept(t, impl.Chain{Spinors: []impl.Spinor{up, down}, Couplings: []float32{-1}}, times, down, down)
		wantSwept(t, impl.Chain{Spinors: []impl.Spinor{up, up}, Couplings: []float32{2}}, times, down, up)
		// The spinor in the middle stays, and the sweep goes on behind it.
		wantSwept(t, impl.Chain{Spinors: []impl.Spinor{up, up, up}, Couplings: []float32{1, 1}}, times, down, up, down)
		wantSwept(t, impl.Chain{Spinors: []impl.Spinor{plus, minusZeros, up}, Couplings: []float32{0, 0}}, times, plus, minusZeros, up)
		// The first spinor has no vector until it is aligned.
		wantSwept(t, impl.Chain{Spinors: []impl.Spinor{most, up}, Couplings: []float32{1}}, times, down, up)
	}
	for _, c := range []impl.Chain{upDown, three, ofZeros, inField(most, 16, endless), chainOf(minusZeros, 3)} {
		wantSwept(t, c, 0, c.Spinors...)
	}
}

// Each spinor but the last one is coupled more to the next one than to the one before, so that the
// direction of the last one gets ahead by one spinor with each sweep.
func TestSweepsGoOnOneByOne(t *testing.T) {
	for n := 2; n <= 16; n++ {
		c := inField(up, n, impl.Vector{})
		c.Spinors[n-1] = down
		for k := range c.Couplings {
			c.Couplings[k] = -power(k)
		}
		for times := range impl.MaxSweeps + 1 {
			want := slices.Concat(repeatedSpinor(up, max(n-1-times, 0)), repeatedSpinor(down, min(times+1, n)))
			wantSwept(t, c, int64(times), want...)
		}
	}
}

// The other way round, one sweep is enough.
func TestSweepsAscend(t *testing.T) {
	for n := 2; n <= 16; n++ {
		c := inField(down, n, impl.Vector{})
		for k := range c.Couplings {
			c.Couplings[k] = -power(-k)
		}
		c.Spinors[0] = up
		c.Spinors[1] = up
		for times := int64(1); times <= impl.MaxSweeps; times++ {
			wantSwept(t, c, times, repeatedSpinor(up, n)...)
		}
	}
}

func TestSweepChainAtTheLimit(t *testing.T) {
	list := []impl.Chain{
		{Spinors: []impl.Spinor{up, most}, Couplings: []float32{1}},
		{Spinors: []impl.Spinor{up, most}, Couplings: []float32{0}},
		// The first spinor stays, so that it has no vector when the next one is aligned.
		{Spinors: []impl.Spinor{most, down}, Couplings: []float32{1}, Field: alongZ},
		{Spinors: []impl.Spinor{up, up, up, large}, Couplings: []float32{1, 1, power(64)}},
		{Spinors: []impl.Spinor{up, up, up, up}, Couplings: []float32{1, 1, power(64)}},
	}
	for _, c := range list {
		for _, times := range []int64{1, 2, 20} {
			made, code := impl.SweepChain(c, times)
			wantNoChain(t, "SweepChain", made, code, impl.ErrLimit)
		}
		wantSwept(t, c, 0, c.Spinors...)
	}
	// Only behind the first sweep both neighbours of the spinor in the middle have long vectors.
	much := -1.5 * power(63)
	c := impl.Chain{Spinors: []impl.Spinor{up, {}, {}}, Couplings: []float32{much, much}, Field: alongZ}
	wantSwept(t, c, 1, down, down, down)
	for times := int64(2); times <= 20; times++ {
		made, code := impl.SweepChain(c, times)
		wantNoChain(t, "SweepChain", made, code, impl.ErrLimit)
	}
}

// timesFor yields a number of sweeps, few most often.
func (s *sampler) timesFor() int64 {
	if s.next(12) == 0 {
		return s.next(21)
	}
	return s.next(4)
}

func TestSweepChainExactly(t *testing.T) {
	s := &sampler{state: 189}
	codes, changed := map[int64]int{}, 0
	for _, c := range s.chains(16) {
		times, r := s.timesFor(), &reckoner{}
		want, wantCode := r.swept(c, times)
		made, code := impl.SweepChain(c, times)
		wantChainOutcome(t, "SweepChain", made, code, want, wantCode)
		codes[code]++
		if before, _ := impl.SweepChain(c, times-1); code == impl.ErrNone && times > 1 && !sameChain(made, before) {
			changed++
		}
	}
	if codes[impl.ErrNone] < 120 || codes[impl.ErrLimit] < 20 || changed < 30 {
		t.Errorf("SweepChain gave the codes %v, and later sweeps changed %d chains", codes, changed)
	}
}

// A sweep aligns all spinors in ascending order, and one of more times is one behind the other.
func TestSweepsAreAlignings(t *testing.T) {
	s := &sampler{state: 190}
	for _, c := range s.chains(20) {
		want, wantCode := copyOf(c), int64(impl.ErrNone)
		for times := range int64(21) {
			made, code := impl.SweepChain(c, times)
			wantChainOutcome(t, "SweepChain", made, code, want, wantCode)
			for k := range int64(len(c.Spinors)) {
				if wantCode == impl.ErrNone {
					want, wantCode = impl.AlignSpinor(want, k)
				}
			}
		}
	}
}
