package tests

import (
	"testing"

	"loop.example/g01214/impl"
)

// h is the root of 1/2.
var h = complex(at(0x3f3504f3), 0)

func TestBellPair(t *testing.T) {
	for k, want := range []impl.Pair{{h, 0, 0, h}, {h, 0, 0, -h}, {0, h, h, 0}, {0, h, -h, 0}} {
		p, code := impl.BellPair(int64(k))
		wantValue(t, "BellPair", p, code, want)
		wantValue(t, "the pair of the reckoner", bellPairFor(int64(k)), impl.ErrNone, want)
	}
	for _, k := range otherBells {
		p, code := impl.BellPair(k)
		wantNone(t, "BellPair", p, code, impl.ErrRange)
	}
}

func TestBellParts(t *testing.T) {
	near, tiny := complex(at(0x3f7fffff), 0), complex(at(1), 0)
	large := h * complex(power(127), 0)
	cases := []struct {
		p    impl.Pair
		want []complex64
	}{
		{impl.Pair{}, []complex64{0, 0, 0, 0}},
		{impl.Pair{minusPair, 0, minusPair, 0}, []complex64{0, 0, 0, 0}},
		{impl.Pair{1, 0, 0, 0}, []complex64{h, h, 0, 0}},
		{impl.Pair{0, i64, 0, 0}, []complex64{0, 0, i64 * h, i64 * h}},
		{impl.Pair{0, 0, 2, 0}, []complex64{0, 0, 2 * h, -2 * h}},
		{impl.Pair{0, 0, 0, -4i}, []complex64{-4i * h, 4i * h, 0, 0}},
		{impl.Pair{1, 2, 2, 1}, []complex64{2 * h, 0, 4 * h, 0}},
		{impl.Pair{h, 0, 0, h}, []complex64{near, 0, 0, 0}},
		{impl.Pair{h, 0, 0, -h}, []complex64{0, near, 0, 0}},
		{impl.Pair{0, h, h, 0}, []complex64{0, 0, near, 0}},
		{impl.Pair{0, h, -h, 0}, []complex64{0, 0, 0, near}},
		// h times the least number is this number, and so they are added.
		{impl.Pair{tiny, tiny, -tiny, tiny}, []complex64{2 * tiny, 0, 0, 2 * tiny}},
		{impl.Pair{complex(power(127), 0), 0, 1, 0}, []complex64{large, large, h, -h}},
	}
	for _, c := range cases {
		parts, code := impl.BellParts(c.p)
		wantList(t, "BellParts", parts, code, c.want)
	}
}

func TestBellPartsAtTheLimit(t *testing.T) {
	most, least := complex64(greatest), complex64(-greatest)
	for _, p := range []impl.Pair{
		{most, 0, 0, most}, {most, 0, 0, least}, {0, most, most, 0}, {0, most, least, 0},
		{i64 * most, 1, 1, i64 * least}, {complex(greatest, greatest), complex(1, greatest), complex(-greatest, greatest), 0},
	} {
		parts, code := impl.BellParts(p)
		wantNoList(t, "BellParts", parts, code, impl.ErrLimit)
	}
}

func TestBellPartsExactly(t *testing.T) {
	for _, p := range somePairs(&sampler{state: 134}, samples/4) {
		r := &reckoner{}
		want := r.bellPartsOf(p)
		parts, code := impl.BellParts(p)
		if r.failed {
			wantNoList(t, "BellParts", parts, code, impl.ErrLimit)
		} else {
			wantList(t, "BellParts", parts, code, want)
		}
	}
}

func TestBellPartsAreNew(t *testing.T) {
	p := impl.Pair{1, 0, 0, 0}
	parts, _ := impl.BellParts(p)
	parts[0], parts[3] = 7, 7
	again, code := impl.BellParts(p)
	wantList(t, "BellParts", again, code, []complex64{h, h, 0, 0})
}

func TestExchangePair(t *testing.T) {
	cosine, sine := complex(at(0x3f6c835f), 0), complex(at(0x3ec3ef15), 0)
	tiny := complex(at(1), 0)
	cases := []struct {
		p    impl.Pair
		k    int64
		want impl.Pair
	}{
		{impl.Pair{}, 0, impl.Pair{}},
		{impl.Pair{minusPair, minusPair, 0, 0}, impl.MaxHalvings, impl.Pair{}},
		{impl.Pair{1, 2, 3, 4}, 0, impl.Pair{-1i, -3i, -2i, -4i}},
		{impl.Pair{complex(1, 2), complex(3, 4), complex(5, 6), complex(7, 8)}, 0, impl.Pair{complex(2, -1), complex(6, -5), complex(4, -3), complex(8, -7)}},
		{impl.Pair{0, 1, 0, 0}, 1, impl.Pair{0, h, -i64 * h, 0}},
		{impl.Pair{0, 0, 1, 0}, 1, impl.Pair{0, -i64 * h, h, 0}},
		{impl.Pair{1, 0, 0, i64}, 1, impl.Pair{h - i64*h, 0, 0, h + i64*h}},
		{impl.Pair{0, 1, 0, 0}, 2, impl.Pair{0, cosine, -i64 * sine, 0}},
		{impl.Pair{0, 0, i64, 0}, 2, impl.Pair{0, sine, i64 * cosine, 0}},
		{impl.Pair{1, 0, 0, 2i}, 2, impl.Pair{cosine - i64*sine, 0, 0, 2*sine + 2*i64*cosine}},
		// Both products are rounded before they are added.
		{impl.Pair{complex(at(1), at(1)), 0, 0, 0}, 1, impl.Pair{2 * tiny, 0, 0, 0}},
		{impl.Pair{0, complex(at(1), 0), complex(0, at(3)), 0}, 2, impl.Pair{0, 2 * tiny, 3i * tiny, 0}},
		{pairWith(3, greatest, -greatest), 0, impl.Pair{complex(-greatest, greatest), complex(-greatest, greatest), complex(greatest, greatest), complex(-greatest, greatest)}},
	}
	for _, c := range cases {
		p, code := impl.ExchangePair(c.p, c.k)
		wantValue(t, "ExchangePair", p, code, c.want)
	}
}

func TestExchangePairAtTheLimit(t *testing.T) {
	most := complex(greatest, float32(greatest))
	for k := int64(1); k < 4; k++ {
		for _, p := range []impl.Pair{{most, 0, 0, 0}, {0, 0, 0, most}, {0, greatest, complex(0, greatest), 0}, {0, complex(0, greatest), greatest, 0}, {0, complex(0, greatest), -greatest, 0}} {
			exchanged, code := impl.ExchangePair(p, k)
			wantNone(t, "ExchangePair", exchanged, code, impl.ErrLimit)
		}
	}
	p, code := impl.ExchangePair(impl.Pair{0, greatest, -greatest, 0}, 1)
	size := real(h) * float32(greatest)
	wantValue(t, "ExchangePair", p, code, impl.Pair{0, complex(size, size), complex(-size, -size), 0})
}

func TestExchangePairExactly(t *testing.T) {
	s := &sampler{state: 135}
	found := 0
	for i := range samples {
		p, k, r := s.pairs(1)[0], int64(i%25), &reckoner{}
		want := r.exchanged(p, k)
		exchanged, code := impl.ExchangePair(p, k)
		wantReckoned(t, r, "ExchangePair", exchanged, code, want)
		if code == impl.ErrNone && exchanged != p {
			found++
		}
	}
	if found < samples/2 {
		t.Errorf("only %d of %d pairs say something", found, samples)
	}
}

// The exchange of a pair and that of the swapped one are swapped.
func TestExchangesOfSwappedPairs(t *testing.T) {
	s := &sampler{state: 136}
	for i, p := range somePairs(s, samples/2) {
		k := int64(i % 25)
		exchanged, code := impl.ExchangePair(p, k)
		other, codeOther := impl.ExchangePair(exchangedInside(p), k)
		if exchangedInside(exchanged) != other || code != codeOther {
			t.Errorf("of %v with %d: %v, %d and %v, %d", p, k, exchanged, code, other, codeOther)
		}
	}
}
