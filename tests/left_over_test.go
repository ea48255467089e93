package tests

import (
	"math"
	"testing"

	"loop.example/g01214/impl"
)

func TestLeftOver(t *testing.T) {
	low, near := complex(power(-75), 0), complex(at(0x3effffff), 0)
	cases := []struct {
		p             impl.Pair
		first, second impl.Turn
	}{
		{impl.Pair{}, impl.Turn{}, impl.Turn{}},
		{impl.Pair{minusPair, minusPair, 0, 0}, impl.Turn{}, impl.Turn{}},
		{impl.Pair{1, 0, 0, 0}, impl.Turn{{1, 0}, {0, 0}}, impl.Turn{{1, 0}, {0, 0}}},
		{impl.Pair{0, i64, 0, 0}, impl.Turn{{1, 0}, {0, 0}}, impl.Turn{{0, 0}, {0, 1}}},
		{impl.Pair{0, 0, i64, 0}, impl.Turn{{0, 0}, {0, 1}}, impl.Turn{{1, 0}, {0, 0}}},
		{impl.Pair{1, i64, 2i, 1}, impl.Turn{{2, -i64}, {i64, 5}}, impl.Turn{{5, i64}, {-i64, 2}}},
		{impl.Pair{1, 0, i64, 0}, impl.Turn{{1, -i64}, {i64, 1}}, impl.Turn{{2, 0}, {0, 0}}},
		{impl.Pair{0, 1, 0, i64}, impl.Turn{{1, -i64}, {i64, 1}}, impl.Turn{{0, 0}, {0, 2}}},
		{impl.Pair{1, i64, 0, 0}, impl.Turn{{2, 0}, {0, 0}}, impl.Turn{{1, -i64}, {i64, 1}}},
		{bellPairFor(0), impl.Turn{{near, 0}, {0, near}}, impl.Turn{{near, 0}, {0, near}}},
		{bellPairFor(3), impl.Turn{{near, 0}, {0, near}}, impl.Turn{{near, 0}, {0, near}}},
		// Each product is rounded before it is added.
		{impl.Pair{low, low, low, low}, impl.Turn{}, impl.Turn{}},
		{impl.Pair{complex(power(-75), power(-75)), 0, low, 1}, impl.Turn{{complex(at(1), 0), 0}, {0, 1}}, impl.Turn{{complex(at(1), 0), low}, {low, 1}}},
		{impl.Pair{4097, 1, 1, 0}, impl.Turn{{4096 * 4098, 4097}, {4097, 1}}, impl.Turn{{4096 * 4098, 4097}, {4097, 1}}},
	}
	for _, c := range cases {
		left, code := impl.LeftOver(c.p, 0)
		wantValue(t, "LeftOver of the first spin", left, code, c.first)
		left, code = impl.LeftOver(c.p, 1)
		wantValue(t, "LeftOver of the second spin", left, code, c.second)
	}
}

func TestLeftOverAtTheLimit(t *testing.T) {
	half := complex(power(63), 0)
	for k := range 4 {
		for _, z := range []complex64{complex(power(64), 0), complex(1, -power(64)), complex(1.5*power(63), 1.5*power(63))} {
			var p impl.Pair
			p[k] = z
			for which := range int64(2) {
				left, code := impl.LeftOver(p, which)
				wantNone(t, "LeftOver", left, code, impl.ErrLimit)
			}
		}
	}
	// Only a sum of the diagonal of one of both tables is not finite.
	for _, p := range []impl.Pair{{1.5 * half, 1.5i * half, 0, 0}, {0, 0, 1.5 * half, -1.5 * half}} {
		left, code := impl.LeftOver(p, 0)
		wantNone(t, "LeftOver", left, code, impl.ErrLimit)
		left, code = impl.LeftOver(exchangedInside(p), 1)
		wantNone(t, "LeftOver", left, code, impl.ErrLimit)
		square := complex(2.25*power(126), 0)
		left, code = impl.LeftOver(exchangedInside(p), 0)
		wantValue(t, "LeftOver: the entry at 0, 0", left[0][0], code, square)
		left, code = impl.LeftOver(p, 1)
		wantValue(t, "LeftOver: the entry at 1, 1", left[1][1], code, square)
	}
}

func TestLeftOverExactly(t *testing.T) {
	s := &sampler{state: 129}
	found := 0
	for _, p := range somePairs(s, samples/2) {
		for which := range int64(2) {
			r := &reckoner{}
			want := r.leftOver(p, which)
			left, code := impl.LeftOver(p, which)
			wantReckoned(t, r, "LeftOver", left, code, want)
			if code == impl.ErrNone && left[0][1] != 0 {
				found++
			}
		}
	}
	if found < samples/3 {
		t.Errorf("only %d of %d tables say something", found, samples)
	}
}

// The guarantee of chapter 7: what is left over of a spin has real numbers in its diagonal. It is a
// mixture, too.
func TestLeftOverHasARealDiagonal(t *testing.T) {
	s := &sampler{state: 130}
	found := 0
	for _, p := range somePairs(s, samples) {
		for which := range int64(2) {
			left, code := impl.LeftOver(p, which)
			if code != impl.ErrNone {
				continue
			}
			if imag(left[0][0]) != 0 || imag(left[1][1]) != 0 || !impl.IsMixture(left) {
				t.Errorf("LeftOver of %v = %v", p, left)
			}
			if left[0][0] != 0 && left[1][1] != 0 && imag(left[1][0]) != 0 {
				found++
			}
		}
	}
	if found < samples/3 {
		t.Errorf("only %d of %d tables say something", found, 2*samples)
	}
}

// What is left of the first spin is what is left of the second one of the swapped pair.
func TestLeftOverOfSwappedPairs(t *testing.T) {
	for _, p := range somePairs(&sampler{state: 131}, samples/2) {
		left, code := impl.LeftOver(p, 0)
		other, codeOther := impl.LeftOver(exchangedInside(p), 1)
		if left != other || code != codeOther {
			t.Errorf("of %v: %v, %d and %v, %d", p, left, code, other, codeOther)
		}
	}
}

func TestTangleOf(t *testing.T) {
	low := complex(power(-75), 0)
	cases := []struct {
		p    impl.Pair
		want float32
	}{
		{impl.Pair{}, 0},
		{impl.Pair{minusPair, 1, minusPair, greatest}, 0},
		{impl.Pair{1, 0, 0, 1}, 2},
		{impl.Pair{0, 1, 1, 0}, 2},
		{impl.Pair{0, i64, -1, 0}, 2},
		{impl.Pair{1, 0, 0, complex(3, 4)}, 10},
		{impl.Pair{1, 2, 3, 4}, 4},
		{impl.Pair{1, i64, i64, -1}, 0},
		{impl.Pair{1, i64, i64, 1}, 4},
		{impl.Pair{complex(1, 2), 3, 2, complex(4, 1)}, 2 * at(0x411d94ec)},
		{bellPairFor(0), at(0x3f7fffff)},
		{bellPairFor(1), at(0x3f7fffff)},
		{bellPairFor(2), at(0x3f7fffff)},
		{bellPairFor(3), at(0x3f7fffff)},
		// Both products are rounded before one is taken from the other.
		{impl.Pair{4097, 4096, 4098, 4097}, 0},
		{impl.Pair{low, 0, 0, low}, 0},
		// The square of twice the difference is no 0, but that of the difference would be.
		{impl.Pair{low, 0, 0, 1}, power(-74)},
		{impl.Pair{1, low, complex(power(-2), 0), 0}, 0},
		{impl.Pair{complex(at(1), 0), 0, 0, 1}, 0},
		{impl.Pair{complex(power(62), 0), 0, 0, 1}, power(63)},
	}
	for _, c := range cases {
		tangle, code := impl.TangleOf(c.p)
		wantValue(t, "TangleOf", tangle, code, c.want)
	}
}

func TestTangleOfAtTheLimit(t *testing.T) {
	big, half, quarter := complex(power(64), 0), complex(power(63), 0), complex(power(62), 0)
	for _, p := range []impl.Pair{
		// A product is not finite, even if the other one is the same.
		{big, 0, 0, big}, {0, big, i64 * big, 0}, {big, big, big, big}, {big, half, big, half * half},
		// The difference, twice of it, or the square of this is not finite.
		{half, half, -big, big}, {half, 0, 0, big}, {1, 0, 0, greatest}, {0, greatest, i64, 0},
		{1, 0, 0, half}, {0, 1, i64 * half, 0}, {1, 1, -quarter, quarter}, {quarter * complex(1.5, 1.5), 0, 0, 1},
	} {
		tangle, code := impl.TangleOf(p)
		wantNone(t, "TangleOf", tangle, code, impl.ErrLimit)
	}
	tangle, code := impl.TangleOf(impl.Pair{half, half, big, big})
	wantValue(t, "TangleOf", tangle, code, 0)
}

func wantReckonedTangle(t *testing.T, p impl.Pair, tangle float32, code int64) {
	t.Helper()
	r := &reckoner{}
	want := r.tangle(p)
	wantReckoned(t, r, "TangleOf", tangle, code, want)
}

func TestTangleOfExactly(t *testing.T) {
	found := 0
	for _, p := range somePairs(&sampler{state: 132}, samples) {
		tangle, code := impl.TangleOf(p)
		wantReckonedTangle(t, p, tangle, code)
		if code == impl.ErrNone && tangle != 0 {
			found++
		}
	}
	if found < samples/3 {
		t.Errorf("only %d of %d tangles say something", found, samples)
	}
}

func TestWeightsOf(t *testing.T) {
	one := int64(0x3f800000)
	cases := []struct{ c, first, second float32 }{
		{0, 1, 0},
		{minusZero, 1, 0},
		{at(1), 1, 0},
		{at(1 << 23), 1, 0},
		{power(-75), 1, 0},
		// 1 less 2^-24 has a root that is this, and 1 added to it is rounded to 2.
		{power(-12), 1, power(-25)},
		{0.5, at(0x3f6ed9ec), at(0x3d8930a4)},
		{at(one - 1), at(0x3f000b50), at(0x3effe95f)},
		{1, 0.5, 0.5},
		{at(one + 1), 0.5, 0.5},
		{1.5, 0.5, 0.5},
		{at(0x3fffffff), 0.5, 0.5},
		{2, 0.5, 0.5},
	}
	for _, c := range cases {
		weights, code := impl.WeightsOf(c.c)
		wantList(t, "WeightsOf", weights, code, []float32{c.first, c.second})
	}
	for _, c := range []float32{-at(1), -at(1 << 23), -1, -2, at(0x40000001), 2.5, 3, greatest, -greatest} {
		weights, code := impl.WeightsOf(c)
		wantNoList(t, "WeightsOf", weights, code, impl.ErrRange)
	}
}

func TestWeightsOfExactly(t *testing.T) {
	s := &sampler{state: 133}
	for range samples {
		c := s.fraction()
		if s.next(4) == 0 {
			c = float32(math.Abs(math.Sin(float64(s.next(1 << 30)))))
		}
		if s.next(4) == 0 {
			c *= 2
		}
		weights, code := impl.WeightsOf(c)
		wantList(t, "WeightsOf", weights, code, new(reckoner).weightsFor(c))
	}
}

func TestWeightsAreNew(t *testing.T) {
	weights, _ := impl.WeightsOf(0)
	weights[0], weights[1] = 7, 7
	again, code := impl.WeightsOf(0)
	wantList(t, "WeightsOf", again, code, []float32{1, 0})
}
