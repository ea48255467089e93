package tests

import (
	"testing"

	"loop.example/g01214/impl"
)

func TestMeasurePair(t *testing.T) {
	p, root := impl.Pair{3, 4i, -4, 3i}, at(0x3f3504f3)
	first, second := complex(float32(0.6), 0), complex(float32(0.8), 0)
	cases := []struct {
		p              impl.Pair
		which, outcome int64
		want           impl.Pair
		chance         float32
	}{
		{p, 0, 0, impl.Pair{first, i64 * second, 0, 0}, 25},
		{p, 0, 1, impl.Pair{0, 0, -second, i64 * first}, 25},
		{p, 1, 0, impl.Pair{first, 0, -second, 0}, 25},
		{p, 1, 1, impl.Pair{0, i64 * second, 0, i64 * first}, 25},
		{impl.Pair{1, 2, 4, 8}, 0, 0, impl.Pair{complex(float32(0.4472136), 0), complex(float32(0.8944272), 0), 0, 0}, 5},
		{impl.Pair{0, 0, i64, 0}, 0, 1, impl.Pair{0, 0, i64, 0}, 1},
		{impl.Pair{0, 0, i64, 0}, 1, 0, impl.Pair{0, 0, i64, 0}, 1},
		{impl.Pair{0, 0, 0, -2}, 0, 1, impl.Pair{0, 0, 0, -1}, 4},
		{impl.Pair{h, 0, 0, h}, 0, 0, impl.Pair{1, 0, 0, 0}, at(0x3effffff)},
		{impl.Pair{h, 0, 0, h}, 1, 1, impl.Pair{0, 0, 0, 1}, at(0x3effffff)},
		{impl.Pair{0, h, -h, 0}, 0, 0, impl.Pair{0, 1, 0, 0}, at(0x3effffff)},
		{impl.Pair{0, h, -h, 0}, 1, 0, impl.Pair{0, 0, -1, 0}, at(0x3effffff)},
		// The chance is rounded, and so is its root.
		{impl.Pair{complex(power(-75), -power(-75)), 0, 0, 1}, 0, 0, impl.Pair{complex(root, -root), 0, 0, 0}, at(1)},
		{impl.Pair{1, 0, 4097, 0}, 0, 1, impl.Pair{0, 0, 1, 0}, 4096 * 4098},
		// Only what is left counts, even if the other squares are not finite.
		{impl.Pair{greatest, 1, greatest, 0}, 1, 1, impl.Pair{0, 1, 0, 0}, 1},
		{impl.Pair{complex(greatest, greatest), greatest, 0, 2i}, 0, 1, impl.Pair{0, 0, 0, i64}, 4},
		{impl.Pair{complex(power(63), 0), 0, greatest, greatest}, 0, 0, impl.Pair{1, 0, 0, 0}, power(126)},
	}
	for _, c := range cases {
		wantMeasured(t, c.p, c.which, c.outcome, c.want, c.chance)
	}
}

// leaving has u and v as the entries that are left by an outcome, and rest as the other ones.
func leaving(which, outcome int64, u, v, rest complex64) impl.Pair {
	p := impl.Pair{rest, rest, rest, rest}
	if which == 0 {
		p[2*outcome], p[2*outcome+1] = u, v
	} else {
		p[outcome], p[2+outcome] = u, v
	}
	return p
}

func TestMeasurePairErrors(t *testing.T) {
	low, tiny, big, half := complex(power(-75), 0), complex(at(1), -at(3)), complex(power(64), 0), complex(power(63), 0)
	for which := range int64(2) {
		for outcome := range int64(2) {
			for _, rest := range []complex64{0, 1, complex(greatest, -greatest)} {
				for _, left := range [][2]complex64{{0, 0}, {minusPair, minusPair}, {low, low}, {-low, i64 * low}, {tiny, low}, {0, tiny}} {
					wantNotMeasured(t, leaving(which, outcome, left[0], left[1], rest), which, outcome, impl.ErrState)
				}
				for _, left := range [][2]complex64{{big, 0}, {0, -i64 * big}, {half * complex(1, 1), half * complex(1, -1)}, {1.5 * half, 1.5 * half}, {half, complex(0, 2*power(63))}} {
					wantNotMeasured(t, leaving(which, outcome, left[0], left[1], rest), which, outcome, impl.ErrLimit)
				}
				p := leaving(which, outcome, 1, 0, rest)
				wantMeasured(t, p, which, outcome, leaving(which, outcome, 1, 0, 0), 1)
			}
		}
	}
}

func TestMeasurePairExactly(t *testing.T) {
	s := &sampler{state: 137}
	codes := map[int64]int{}
	for _, p := range somePairs(s, samples/3) {
		for i := range int64(4) {
			which, outcome := i/2, i%2
			want, wantChance, wantCode := new(reckoner).measured(p, which, outcome)
			measured, chance, code := impl.MeasurePair(p, which, outcome)
			wantOutcome(t, "MeasurePair", measured, code, want, wantCode)
			wantOutcome(t, "MeasurePair: the chance", chance, code, wantChance, wantCode)
			codes[code]++
		}
	}
	if codes[impl.ErrNone] < samples/2 || codes[impl.ErrState] < samples/50 || codes[impl.ErrLimit] < samples/50 {
		t.Errorf("MeasurePair gave the codes %v", codes)
	}
}

// Measuring the first spin is measuring the second one of the swapped pair: zeros between the entries
// that are left change no sum.
func TestMeasuredSwappedPairs(t *testing.T) {
	for _, p := range somePairs(&sampler{state: 138}, samples/3) {
		for outcome := range int64(2) {
			first, chance, code := impl.MeasurePair(p, 0, outcome)
			second, chanceSecond, codeSecond := impl.MeasurePair(exchangedInside(p), 1, outcome)
			if exchangedInside(second) != first || chance != chanceSecond || code != codeSecond {
				t.Errorf("of %v: %v, %v, %d and %v, %v, %d", p, first, chance, code, second, chanceSecond, codeSecond)
			}
		}
	}
}

func TestSendSpinor(t *testing.T) {
	p, up, down := impl.Pair{2, 4i, 8, 16i}, impl.Spinor{1, 0}, impl.Spinor{0, i64}
	near, tiny := complex(at(0x3effffff), 0), complex(at(1), 0)
	cases := []struct {
		s    impl.Spinor
		p    impl.Pair
		k    int64
		want impl.Spinor
	}{
		{impl.Spinor{}, p, 0, impl.Spinor{}},
		{impl.Spinor{greatest, i64}, impl.Pair{}, 3, impl.Spinor{}},
		{up, p, 0, impl.Spinor{2 * h, 4i * h}},
		{up, p, 1, impl.Spinor{2 * h, 4i * h}},
		{up, p, 2, impl.Spinor{8 * h, 16i * h}},
		{up, p, 3, impl.Spinor{8 * h, 16i * h}},
		{down, p, 0, impl.Spinor{8i * h, -16 * h}},
		{down, p, 1, impl.Spinor{-8i * h, 16 * h}},
		{down, p, 2, impl.Spinor{2i * h, -4 * h}},
		{down, p, 3, impl.Spinor{-2i * h, 4 * h}},
		// Bell's pair 0 sends a spinor as it is, but for a half.
		{impl.Spinor{1, 2i}, impl.Pair{h, 0, 0, h}, 0, impl.Spinor{near, 2i * near}},
		{impl.Spinor{1, 2i}, impl.Pair{h, 0, 0, h}, 1, impl.Spinor{near, -2i * near}},
		{impl.Spinor{1, 2i}, impl.Pair{h, 0, 0, h}, 2, impl.Spinor{2i * near, near}},
		{impl.Spinor{1, 2i}, impl.Pair{h, 0, 0, h}, 3, impl.Spinor{-2i * near, near}},
		// The product with an entry of Bell's pair comes first, and is rounded.
		{impl.Spinor{tiny, 0}, impl.Pair{complex(power(100), 0), 1, 0, 0}, 0, impl.Spinor{complex(power(-49), 0), tiny}},
		{impl.Spinor{0, i64 * tiny}, impl.Pair{0, 0, 0, complex(0, power(100))}, 1, impl.Spinor{0, complex(power(-49), 0)}},
		{impl.Spinor{greatest, 0}, impl.Pair{1, 0, i64, 0}, 2, impl.Spinor{i64 * h * greatest, 0}},
	}
	for _, c := range cases {
		s, code := impl.SendSpinor(c.s, c.p, c.k)
		wantValue(t, "SendSpinor", s, code, c.want)
	}
}

func TestSendSpinorAtTheLimit(t *testing.T) {
	big, most, whole := complex(power(65), 0), complex64(greatest), complex(greatest, float32(greatest))
	cases := []struct {
		s impl.Spinor
		p impl.Pair
		k int64
	}{
		{impl.Spinor{big, 0}, impl.Pair{big, 0, 0, 0}, 0},
		{impl.Spinor{big, 0}, impl.Pair{0, i64 * big, 0, 0}, 1},
		{impl.Spinor{big, 0}, impl.Pair{0, 0, big, 0}, 2},
		{impl.Spinor{0, big}, impl.Pair{-big, 0, 0, 0}, 3},
		{impl.Spinor{most, 0}, impl.Pair{0, 0, 0, 2}, 3},
		{impl.Spinor{whole, 0}, impl.Pair{complex(1, 1), 0, 0, 0}, 0},
		// Only the sum is not finite.
		{impl.Spinor{most, most}, impl.Pair{1, 0, 1, 0}, 0},
		{impl.Spinor{most, most}, impl.Pair{0, 1, 0, -1}, 1},
		{impl.Spinor{most, i64 * most}, impl.Pair{0, 1, 0, i64}, 2},
		{impl.Spinor{1, 1}, impl.Pair{most, 0, -most, 0}, 3},
	}
	for _, c := range cases {
		s, code := impl.SendSpinor(c.s, c.p, c.k)
		wantNone(t, "SendSpinor", s, code, impl.ErrLimit)
	}
	s, code := impl.SendSpinor(impl.Spinor{most, most}, impl.Pair{1, 0, 1, 0}, 1)
	wantValue(t, "SendSpinor", s, code, impl.Spinor{})
}

func TestSendSpinorExactly(t *testing.T) {
	s := &sampler{state: 139}
	found := 0
	for range samples / 2 {
		v := s.spinors(3)
		if s.next(3) == 0 {
			v[0] = impl.Spinor(s.turning()[0])
		}
		one, p, k, r := v[0], impl.Pair{v[1][0], v[1][1], v[2][0], v[2][1]}, s.next(4), &reckoner{}
		want := r.sent(one, p, k)
		sent, code := impl.SendSpinor(one, p, k)
		wantReckoned(t, r, "SendSpinor", sent, code, want)
		if code == impl.ErrNone && sent != (impl.Spinor{}) {
			found++
		}
	}
	if found < samples/5 {
		t.Errorf("only %d of %d spinors say something", found, samples/2)
	}
}
