package tests

import (
	"math"
	"testing"

	"loop.example/g01214/impl"
)

// pairWith has x as one of its eight parts, and rest as the other ones.
func pairWith(part int, x, rest float32) impl.Pair {
	rows := tableWith(part, x, rest)
	return impl.Pair{rows[0][0], rows[0][1], rows[1][0], rows[1][1]}
}

// badPairs are no pairs because of one part, or of all of them. The others would often lead to
// another error.
func badPairs() []impl.Pair {
	var list []impl.Pair
	for _, x := range badParts {
		for part := range 8 {
			for _, rest := range []float32{0, 1, greatest, x} {
				list = append(list, pairWith(part, x, rest))
			}
		}
	}
	return list
}

func goodPairs() []impl.Pair {
	list := []impl.Pair{
		{}, {minusPair, minusPair, minusPair, minusPair}, {1, 2, 3, 4}, {1, i64, 2i, 1},
		pairWith(0, greatest, greatest), pairWith(7, -greatest, -greatest),
	}
	for part := range 8 {
		for _, x := range []float32{0, minusZero, at(1), -at(1), at(1<<23 - 1), at(1 << 23), power(-75), power(64), greatest, -greatest} {
			list = append(list, pairWith(part, x, 1), pairWith(part, x, minusZero))
		}
	}
	return list
}

// somePairs are good ones and random ones.
func somePairs(s *sampler, n int) []impl.Pair {
	list := goodPairs()
	for range n {
		list = append(list, s.pairs(1)...)
	}
	return list
}

// otherNumbers are neither 0 nor 1, even if only their lowest bits are looked at.
var otherNumbers = []int64{-1, 2, 3, -2, math.MaxInt64, math.MinInt64, 1 << 32, 1<<32 + 1, -1 << 32, 256, 257}

// anyOutcomes are 0 and 1, and others.
var anyOutcomes = append([]int64{0, 1}, otherNumbers...)

// otherBells are not in 0..3.
var otherBells = []int64{-1, 4, 5, -4, math.MaxInt64, math.MinInt64, 1 << 32, 1<<32 + 3, -1 << 32, 256}

// otherHalvings are not in 0..MaxHalvings.
var otherHalvings = []int64{-1, impl.MaxHalvings + 1, -24, 100, math.MaxInt64, math.MinInt64, 1 << 32, 1<<32 + 1, -1 << 32, 256}

func wantNotMeasured(t *testing.T, p impl.Pair, which, outcome, want int64) {
	t.Helper()
	measured, chance, code := impl.MeasurePair(p, which, outcome)
	wantNone(t, "MeasurePair", measured, code, want)
	wantNone(t, "MeasurePair: the chance", chance, code, want)
}

func wantMeasured(t *testing.T, p impl.Pair, which, outcome int64, want impl.Pair, wantChance float32) {
	t.Helper()
	measured, chance, code := impl.MeasurePair(p, which, outcome)
	wantValue(t, "MeasurePair", measured, code, want)
	wantValue(t, "MeasurePair: the chance", chance, code, wantChance)
}

func TestIsPair(t *testing.T) {
	for _, p := range goodPairs() {
		if !impl.IsPair(p) {
			t.Errorf("IsPair(%v) is false", p)
		}
	}
	for _, p := range badPairs() {
		if impl.IsPair(p) {
			t.Errorf("IsPair(%v) is true", p)
		}
	}
}

func TestFunctionsOfOneRefuseWhatIsNoPair(t *testing.T) {
	for _, bad := range badPairs() {
		swapped, code := impl.SwapPair(bad)
		wantNone(t, "SwapPair", swapped, code, impl.ErrInvalid)
		norm, code := impl.NormOfPair(bad)
		wantNone(t, "NormOfPair", norm, code, impl.ErrInvalid)
		renewed, code := impl.RenewPair(bad)
		wantNone(t, "RenewPair", renewed, code, impl.ErrInvalid)
		tangle, code := impl.TangleOf(bad)
		wantNone(t, "TangleOf", tangle, code, impl.ErrInvalid)
		parts, code := impl.BellParts(bad)
		wantNoList(t, "BellParts", parts, code, impl.ErrInvalid)
	}
}

// ErrInvalid comes ahead of ErrRange.
func TestFunctionsWithNumbersRefuseWhatIsNoPair(t *testing.T) {
	for _, bad := range badPairs() {
		for _, which := range anyOutcomes {
			left, code := impl.LeftOver(bad, which)
			wantNone(t, "LeftOver", left, code, impl.ErrInvalid)
			for _, outcome := range anyOutcomes {
				wantNotMeasured(t, bad, which, outcome, impl.ErrInvalid)
			}
		}
		for _, k := range append([]int64{0, 1, impl.MaxHalvings}, otherHalvings...) {
			exchanged, code := impl.ExchangePair(bad, k)
			wantNone(t, "ExchangePair", exchanged, code, impl.ErrInvalid)
		}
	}
}

func TestInnerOfPairsRefusesWhatIsNoPair(t *testing.T) {
	for _, bad := range badPairs() {
		for _, other := range []impl.Pair{{}, {1, i64, 2, 3}, pairWith(0, greatest, greatest), bad} {
			for _, both := range [][2]impl.Pair{{bad, other}, {other, bad}} {
				inner, code := impl.InnerOfPairs(both[0], both[1])
				wantNone(t, "InnerOfPairs", inner, code, impl.ErrInvalid)
			}
		}
	}
}

func wantNotTurned(t *testing.T, a impl.Turn, p impl.Pair) {
	t.Helper()
	controlled, code := impl.ControlPair(a, p)
	wantNone(t, "ControlPair", controlled, code, impl.ErrInvalid)
	for _, which := range anyOutcomes {
		turned, code := impl.TurnOne(a, p, which)
		wantNone(t, "TurnOne", turned, code, impl.ErrInvalid)
	}
}

func TestTurnsOfPairsRefuseWhatIsInvalid(t *testing.T) {
	for _, bad := range badPairs() {
		for _, a := range []impl.Turn{{}, unit, tableWith(0, greatest, greatest), badTables()[0]} {
			wantNotTurned(t, a, bad)
		}
	}
	for _, bad := range badTables() {
		for _, p := range []impl.Pair{{}, {1, i64, 2, 3}, pairWith(0, greatest, greatest)} {
			wantNotTurned(t, bad, p)
		}
	}
}

func TestTensorOfRefusesWhatIsNoSpinor(t *testing.T) {
	for _, bad := range badSpinors() {
		for _, other := range []impl.Spinor{{}, {1, i64}, {greatest, greatest}, bad} {
			for _, both := range [][2]impl.Spinor{{bad, other}, {other, bad}} {
				p, code := impl.TensorOf(both[0], both[1])
				wantNone(t, "TensorOf", p, code, impl.ErrInvalid)
			}
		}
	}
}

func TestSendSpinorRefusesWhatIsInvalid(t *testing.T) {
	for _, k := range append([]int64{0, 1, 2, 3}, otherBells...) {
		for _, bad := range badSpinors() {
			for _, p := range []impl.Pair{{}, {1, i64, 2, 3}, pairWith(0, greatest, greatest), badPairs()[0]} {
				s, code := impl.SendSpinor(bad, p, k)
				wantNone(t, "SendSpinor", s, code, impl.ErrInvalid)
			}
		}
		for _, bad := range badPairs() {
			for _, one := range []impl.Spinor{{}, {1, i64}, {greatest, greatest}} {
				s, code := impl.SendSpinor(one, bad, k)
				wantNone(t, "SendSpinor", s, code, impl.ErrInvalid)
			}
		}
	}
}

func TestWeightsOfRefusesWhatIsNoNumber(t *testing.T) {
	for _, x := range badParts {
		weights, code := impl.WeightsOf(x)
		wantNoList(t, "WeightsOf", weights, code, impl.ErrInvalid)
	}
}

// ErrRange comes ahead of ErrState and ErrLimit, whatever the pair is.
func TestFunctionsOfPairsBeyondTheirRanges(t *testing.T) {
	for _, p := range goodPairs() {
		for _, which := range otherNumbers {
			left, code := impl.LeftOver(p, which)
			wantNone(t, "LeftOver", left, code, impl.ErrRange)
			for _, outcome := range anyOutcomes {
				wantNotMeasured(t, p, which, outcome, impl.ErrRange)
				wantNotMeasured(t, p, outcome, which, impl.ErrRange)
			}
			for _, a := range []impl.Turn{{}, unit, tableWith(0, greatest, greatest)} {
				turned, code := impl.TurnOne(a, p, which)
				wantNone(t, "TurnOne", turned, code, impl.ErrRange)
			}
		}
		for _, k := range otherHalvings {
			exchanged, code := impl.ExchangePair(p, k)
			wantNone(t, "ExchangePair", exchanged, code, impl.ErrRange)
		}
		for _, k := range otherBells {
			for _, one := range []impl.Spinor{{}, {1, i64}, {greatest, complex(greatest, -greatest)}} {
				s, code := impl.SendSpinor(one, p, k)
				wantNone(t, "SendSpinor", s, code, impl.ErrRange)
			}
		}
	}
}
