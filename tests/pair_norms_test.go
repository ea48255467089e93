package tests

import (
	"testing"

	"loop.example/g01214/impl"
)

func TestInnerOfPairs(t *testing.T) {
	low := complex(power(-75), 0)
	cases := []struct {
		p, q impl.Pair
		want complex64
	}{
		{impl.Pair{}, impl.Pair{greatest, 1, i64, -greatest}, 0},
		{impl.Pair{minusPair, 1, minusPair, 0}, impl.Pair{greatest, minusPair, i64, 3}, 0},
		{impl.Pair{1, 2, 3, 4}, impl.Pair{5, 6, 7, 8}, 70},
		{impl.Pair{i64, 0, 0, 0}, impl.Pair{1, 5, 6, 7}, -i64},
		{impl.Pair{0, i64, 0, 0}, impl.Pair{4, 1, 6, 7}, -i64},
		{impl.Pair{0, 0, i64, 0}, impl.Pair{4, 5, 1, 7}, -i64},
		{impl.Pair{0, 0, 0, i64}, impl.Pair{4, 5, 6, 1}, -i64},
		{impl.Pair{0, 1, 0, 0}, impl.Pair{4, i64, 6, 7}, i64},
		{impl.Pair{complex(1, 2), 1, i64, 0}, impl.Pair{complex(3, 1), i64, i64, 9}, complex(6, -4)},
		// The sum is made from the left: 2^24 and 1 are 2^24.
		{impl.Pair{1, 1, 1, 1}, impl.Pair{1 << 24, 1, 1, 1}, 1 << 24},
		{impl.Pair{1, 1, 1, 1}, impl.Pair{1, 1, 1, 1 << 24}, 1<<24 + 4},
		{impl.Pair{1, 1, 1, 1}, impl.Pair{1i, 1i, (1 << 24) * i64, 1i}, (1<<24 + 4) * i64},
		// Each product is rounded before it is added.
		{impl.Pair{4097, 0, 4096, 0}, impl.Pair{4097, 1, -4098, 1}, 0},
		{impl.Pair{low, low, low, low}, impl.Pair{low, low, low, low}, 0},
		{impl.Pair{0, 0.5, 0.75, 0}, impl.Pair{0, complex(at(1), 0), complex(at(3), at(1)), 0}, complex(at(2), at(1))},
	}
	for _, c := range cases {
		inner, code := impl.InnerOfPairs(c.p, c.q)
		wantValue(t, "InnerOfPairs", inner, code, c.want)
	}
}

func TestInnerOfPairsAtTheLimit(t *testing.T) {
	big, half, most := complex(power(64), 0), complex(power(63), 0), complex64(greatest)
	cases := [][2]impl.Pair{
		{{big, 0, 0, 0}, {big, 0, 0, 0}},
		{{0, big, 0, 0}, {0, i64 * big, 0, 0}},
		{{0, 0, i64 * big, 0}, {0, 0, -big, 0}},
		{{0, 0, 0, big}, {0, 0, 0, -big}},
		{{big, half, 0, 0}, {half, big, 0, 0}},
		{{0, 0, big, half}, {0, 0, i64 * half, i64 * big}},
		{{most, 0, 0, 1}, {1, 0, 0, complex(power(103), 0)}},
		// A sum on the way is not finite, even if the next one would take it back.
		{{half, half, half, half}, {big, big, -big, -big}},
	}
	for _, c := range cases {
		inner, code := impl.InnerOfPairs(c[0], c[1])
		wantNone(t, "InnerOfPairs", inner, code, impl.ErrLimit)
	}
	inner, code := impl.InnerOfPairs(impl.Pair{half, half, half, half}, impl.Pair{big, -big, big, -big})
	wantValue(t, "InnerOfPairs", inner, code, 0)
	inner, code = impl.InnerOfPairs(impl.Pair{most, 0, 0, 1}, impl.Pair{1, 0, 0, complex(power(102), 0)})
	wantValue(t, "InnerOfPairs", inner, code, most)
}

// Promise 7: inner products turned round are conjugates.
func TestInnerProductsOfPairsTurnedRound(t *testing.T) {
	s := &sampler{state: 127}
	list, found := goodPairs(), 0
	for range samples {
		both := s.pairs(2)
		if s.next(20) == 0 {
			both[1] = list[s.next(int64(len(list)))]
		}
		inner, code := impl.InnerOfPairs(both[0], both[1])
		turned, codeTurned := impl.InnerOfPairs(both[1], both[0])
		if turned != mirrored(inner) || codeTurned != code {
			t.Errorf("of %v: %v, %d and %v, %d", both, inner, code, turned, codeTurned)
		}
		if code == impl.ErrNone && imag(inner) != 0 {
			found++
		}
	}
	if found < samples/3 {
		t.Errorf("only %d of %d inner products say something", found, samples)
	}
}

// Promise 7, with inner products that are found without the program.
func TestKnownInnerProductsOfPairsTurnedRound(t *testing.T) {
	p, q := impl.Pair{complex(1, 2), 1, i64, 2}, impl.Pair{complex(3, 1), i64, 4, complex(0, -3)}
	inner, code := impl.InnerOfPairs(p, q)
	wantValue(t, "InnerOfPairs", inner, code, complex(5, -14))
	inner, code = impl.InnerOfPairs(q, p)
	wantValue(t, "InnerOfPairs", inner, code, complex(5, 14))
}

func TestNormOfPair(t *testing.T) {
	low := complex(power(-75), 0)
	cases := []struct {
		p    impl.Pair
		want float32
	}{
		{impl.Pair{}, 0},
		{impl.Pair{minusPair, minusPair, minusPair, minusPair}, 0},
		{impl.Pair{complex(3, 4), 0, 0, 0}, 25},
		{impl.Pair{0, complex(3, -4), 0, 0}, 25},
		{impl.Pair{0, 0, complex(-4, 3), 0}, 25},
		{impl.Pair{0, 0, 0, complex(0, -5)}, 25},
		{impl.Pair{1, complex(1, 1), 2i, -3}, 16},
		// Each square is rounded to 0, although their sum would not be.
		{impl.Pair{low, low, low, low}, 0},
		{impl.Pair{complex(at(1), at(1)), 0, 0, complex(0, at(1<<23))}, 0},
		{impl.Pair{complex(power(-75), power(-75)), low, 0, 0}, at(1)},
		// The sum is made from the left: 2^24 and 1 are 2^24.
		{impl.Pair{4096, 1, 1, 1}, 1 << 24},
		{impl.Pair{1, 1, 1, 4096}, 1<<24 + 4},
		{impl.Pair{1, 1, 4096i, 1}, 1<<24 + 4},
		{impl.Pair{4097, 0, 0, 1}, 4096 * 4098},
	}
	for _, c := range cases {
		norm, code := impl.NormOfPair(c.p)
		wantValue(t, "NormOfPair", norm, code, c.want)
	}
}

// endlessPairs have norms that are not finite.
func endlessPairs() []impl.Pair {
	half := complex(power(63), 0)
	list := []impl.Pair{
		{half, half, half, half}, {complex(1.5*power(63), 0), 1.5 * half * i64, 0, 0},
		{0, complex(power(63), power(63)), half, -half}, pairWith(0, greatest, 0), pairWith(7, greatest, greatest),
	}
	for k := range 4 {
		for _, z := range []complex64{complex(power(64), 0), complex(1, -power(64)), complex(1.5*power(63), 1.5*power(63))} {
			var p impl.Pair
			p[k] = z
			list = append(list, p)
		}
	}
	return list
}

func TestNormsOfPairsAtTheLimit(t *testing.T) {
	for _, p := range endlessPairs() {
		norm, code := impl.NormOfPair(p)
		wantNone(t, "NormOfPair", norm, code, impl.ErrLimit)
		renewed, code := impl.RenewPair(p)
		wantNone(t, "RenewPair", renewed, code, impl.ErrLimit)
	}
	half := complex(power(63), 0)
	norm, code := impl.NormOfPair(impl.Pair{half, 0, half, half})
	wantValue(t, "NormOfPair", norm, code, 3*power(126))
}

func TestRenewPair(t *testing.T) {
	root, tiny := at(0x3f3504f3), complex(at(1), 0)
	cases := [][2]impl.Pair{
		{{1, 0, 0, 0}, {1, 0, 0, 0}},
		{{0, 0, 8i, 0}, {0, 0, i64, 0}},
		{{1, -1, i64, -i64}, {0.5, -0.5, 0.5i, -0.5i}},
		{{complex(3, 0), 0, 0, complex(0, -4)}, {complex(float32(0.6), 0), 0, 0, complex(0, float32(-0.8))}},
		{{1, 0, 0, 1}, {complex(root, 0), 0, 0, complex(root, 0)}},
		{{0, complex(0, -1), minusPair, 1}, {0, complex(0, -root), 0, complex(root, 0)}},
		// The parts are divided by a root that is rounded.
		{{complex(power(-75), power(-75)), 0, 0, 0}, {complex(root, root), 0, 0, 0}},
		{{complex(power(-74), 0), tiny, 0, 0}, {1, complex(power(-75), 0), 0, 0}},
		{{2, tiny, 3 * tiny, 0}, {1, 0, 2 * tiny, 0}},
		{{0, complex(power(63), 0), 0, 0}, {0, 1, 0, 0}},
		{{complex(power(63), 0), 0, tiny, 0}, {1, 0, 0, 0}},
	}
	for _, c := range cases {
		p, code := impl.RenewPair(c[0])
		wantValue(t, "RenewPair", p, code, c[1])
	}
}

// pairsWithoutNorm have a norm of 0, though some are not 0.
func pairsWithoutNorm() []impl.Pair {
	list := []impl.Pair{{}, {minusPair, minusPair, minusPair, minusPair}}
	for _, x := range []float32{at(1), -at(1), at(1<<23 - 1), at(1 << 23), power(-76), -power(-75)} {
		for part := range 8 {
			// The squares of the parts, added, are rounded to a float64 first, which loses that of at(1).
			list = append(list, pairWith(part, x, 0), pairWith(part, x, at(1)))
		}
	}
	z := complex(power(-75), 0)
	return append(list, impl.Pair{z, z, z, z}, impl.Pair{z, i64 * z, -z, -i64 * z})
}

func TestRenewPairWithoutNorm(t *testing.T) {
	for _, p := range pairsWithoutNorm() {
		norm, code := impl.NormOfPair(p)
		wantValue(t, "NormOfPair", norm, code, 0)
		renewed, code := impl.RenewPair(p)
		wantNone(t, "RenewPair", renewed, code, impl.ErrState)
	}
}

func TestNormsOfPairsExactly(t *testing.T) {
	s := &sampler{state: 128}
	codes := map[int64]int{}
	for range samples / 2 {
		both, r := s.pairs(2), &reckoner{}
		wantInner := r.innerOfPairs(both[0], both[1])
		inner, code := impl.InnerOfPairs(both[0], both[1])
		wantReckoned(t, r, "InnerOfPairs", inner, code, wantInner)
		r = &reckoner{}
		wantNorm := r.normOfPair(both[0])
		norm, code := impl.NormOfPair(both[0])
		wantReckoned(t, r, "NormOfPair", norm, code, wantNorm)
		want, wantCode := new(reckoner).renewedPair(both[0])
		renewed, code := impl.RenewPair(both[0])
		wantOutcome(t, "RenewPair", renewed, code, want, wantCode)
		codes[code]++
	}
	if codes[impl.ErrNone] < samples/4 || codes[impl.ErrState] < samples/50 || codes[impl.ErrLimit] < samples/50 {
		t.Errorf("RenewPair gave the codes %v", codes)
	}
}
