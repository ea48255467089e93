package tests

import (
	"math"
	"testing"

	"loop.example/g01214/impl"
)

func TestTurnMixture(t *testing.T) {
	m := mixtureWith(1, 2, complex(3, 4))
	low, high := complex(power(-75), 0), complex(power(75), 0)
	cases := []struct{ a, m, want impl.Turn }{
		{impl.Turn{{0, 1}, {1, 0}}, m, mixtureWith(2, 1, complex(3, -4))},
		{impl.Turn{{0, -1}, {1, 0}}, m, mixtureWith(2, 1, complex(-3, 4))},
		{impl.Turn{{-i64, 0}, {0, i64}}, m, mixtureWith(1, 2, complex(-3, -4))},
		{impl.Turn{{1, 0}, {0, i64}}, m, mixtureWith(1, 2, complex(-4, 3))},
		{impl.Turn{{2, 0}, {0, 3}}, m, mixtureWith(4, 18, complex(18, 24))},
		{impl.Turn{{1, 1}, {0, 1}}, m, mixtureWith(9, 2, complex(5, 4))},
		{impl.Turn{{1, 0}, {1, 1}}, m, mixtureWith(1, 9, complex(4, 4))},
		{impl.Turn{{1, i64}, {0, 0}}, mixtureWith(1, 2, complex(1, -1)), mixtureWith(5, 0, 0)},
		{impl.Turn{}, m, impl.Turn{}},
		{impl.Turn{{greatest, greatest}, {greatest, i64}}, impl.Turn{}, impl.Turn{}},
		{negative(unit), m, m},
		// A mixture need not be one of spinors.
		{impl.Turn{{1, 1}, {1, 1}}, mixtureWith(0, 0, 1), mixtureWith(2, 2, 2)},
		// The product of A and M comes first, and the entry at 1, 0 is taken, not that at 0, 1.
		{impl.Turn{{high, 0}, {0, low}}, mixtureWith(0, 0, low), impl.Turn{}},
		{impl.Turn{{low, 0}, {0, high}}, mixtureWith(0, 0, low), mixtureWith(0, 0, low)},
		{impl.Turn{{1, 0}, {0, 0.5}}, mixtureWith(at(1), at(2), complex(at(3), at(1))), mixtureWith(at(1), 0, complex(at(2), 0))},
		{impl.Turn{{complex(power(63), 0), 0}, {0, 1}}, mixtureWith(1, 2, 3), mixtureWith(power(126), 2, complex(3*power(63), 0))},
	}
	for _, c := range cases {
		got, code := impl.TurnMixture(c.a, c.m)
		wantValue(t, "TurnMixture", got, code, c.want)
	}
}

func TestTurnMixtureErrors(t *testing.T) {
	big, most := complex(power(64), 0), complex64(greatest)
	crossed := mixtureWith(0, 0, 1)
	cases := []struct {
		a, m impl.Turn
		want int64
	}{
		// The real part at 0, 0, or at 1, 1, is less than 0.
		{impl.Turn{{1, -1}, {0, 0}}, crossed, impl.ErrState},
		{impl.Turn{{0, 0}, {-1, 1}}, crossed, impl.ErrState},
		{impl.Turn{{1, i64}, {1, 1}}, mixtureWith(0, 0, i64), impl.ErrState},
		{impl.Turn{{1, -1}, {1, 1}}, mixtureWith(1, 1, complex(at(0x3f800001), 0)), impl.ErrState},
		{impl.Turn{{1, -1}, {0, 1}}, mixtureWith(at(1), 0, complex(at(1), 0)), impl.ErrState},
		// ErrLimit comes ahead, in whatever entry.
		{impl.Turn{{1, -1}, {big, big}}, crossed, impl.ErrLimit},
		{impl.Turn{{big, big}, {1, -1}}, crossed, impl.ErrLimit},
		{impl.Turn{{big, -big}, {0, 0}}, crossed, impl.ErrLimit},
		{impl.Turn{{big, 0}, {0, 1}}, unit, impl.ErrLimit},
		{impl.Turn{{1, 0}, {0, big}}, unit, impl.ErrLimit},
		{impl.Turn{{0, i64 * big}, {1, 0}}, unit, impl.ErrLimit},
		{impl.Turn{{1, 0}, {big, 0}}, mixtureWith(power(64), 0, 0), impl.ErrLimit},
		{impl.Turn{{2, 0}, {0, 1}}, mixtureWith(greatest, 0, 0), impl.ErrLimit},
		{impl.Turn{{1, 0}, {0, 2}}, mixtureWith(0, 0, -most), impl.ErrLimit},
		{impl.Turn{{1, 1}, {0, 0}}, mixtureWith(greatest, 0, most), impl.ErrLimit},
		// Only the entry at 0, 1, which is not taken, has what is not finite.
		{impl.Turn{{0, complex(power(60), 0)}, {complex(power(70), 0), complex(power(70), 0)}}, mixtureWith(1, 1, -1), impl.ErrLimit},
	}
	for _, c := range cases {
		m, code := impl.TurnMixture(c.a, c.m)
		wantNone(t, "TurnMixture", m, code, c.want)
	}
}

func TestTurnMixtureExactly(t *testing.T) {
	s := &sampler{state: 105}
	codes := map[int64]int{}
	for range samples / 3 {
		a, m := s.anyTables(1)[0], s.anyMixtures(1)[0]
		want, wantCode := new(reckoner).turned(a, m)
		got, code := impl.TurnMixture(a, m)
		wantOutcome(t, "TurnMixture", got, code, want, wantCode)
		codes[code]++
	}
	if codes[impl.ErrNone] < samples/10 || codes[impl.ErrState] < samples/40 || codes[impl.ErrLimit] < samples/40 {
		t.Errorf("TurnMixture gave the codes %v", codes)
	}
}

// Promise 12, for chapter 6: what the unit makes of a mixture is the mixture.
func TestTheUnitLeavesMixtures(t *testing.T) {
	s := &sampler{state: 106}
	list := goodMixtures()
	for range samples {
		list = append(list, s.anyMixtures(1)...)
	}
	for _, m := range list {
		turned, code := impl.TurnMixture(unit, m)
		wantValue(t, "TurnMixture", turned, code, m)
	}
}

func TestDephaseMixture(t *testing.T) {
	most := complex64(complex(greatest, -greatest))
	cases := []struct {
		m    impl.Turn
		k    float32
		want impl.Turn
	}{
		{mixtureWith(1, 2, complex(3, -4)), 0.5, mixtureWith(1, 2, complex(1.5, -2))},
		{mixtureWith(1, 2, complex(3, -4)), 0, mixtureWith(1, 2, 0)},
		{mixtureWith(1, 2, complex(3, -4)), minusZero, mixtureWith(1, 2, 0)},
		{impl.Turn{}, 0.5, impl.Turn{}},
		{mixtureWith(greatest, greatest, most), 0, mixtureWith(greatest, greatest, 0)},
		{mixtureWith(greatest, 1, most), 0.5, mixtureWith(greatest, 1, complex(at(0x7effffff), -at(0x7effffff)))},
		{mixtureWith(at(1), at(3), complex(at(1), at(3))), 0.5, mixtureWith(at(1), at(3), complex(0, at(2)))},
		{mixtureWith(0, 0, complex(1, -2)), at(1), mixtureWith(0, 0, complex(at(1), -at(2)))},
		{mixtureWith(0, 0, complex(0.5, 0.75)), at(1), mixtureWith(0, 0, complex(0, at(1)))},
		{unit, 0.25, unit},
	}
	for _, c := range cases {
		m, code := impl.DephaseMixture(c.m, c.k)
		wantValue(t, "DephaseMixture", m, code, c.want)
	}
}

// beyondOne are not in 0..1.
var beyondOne = []float32{-at(1), -at(1 << 23), -0.5, -1, -greatest, at(0x3f800001), 1.5, 2, greatest}

func TestChannelsBeyondTheirRanges(t *testing.T) {
	for _, m := range goodMixtures() {
		for _, x := range beyondOne {
			dephased, code := impl.DephaseMixture(m, x)
			wantNone(t, "DephaseMixture", dephased, code, impl.ErrRange)
			for _, times := range oddTimes {
				damped, code := impl.DampMixture(m, x, times)
				wantNone(t, "DampMixture", damped, code, impl.ErrRange)
			}
		}
		for _, g := range []float32{0, minusZero, 0.5, 1} {
			for _, times := range []int64{-1, 51, math.MinInt64, math.MaxInt64, 1 << 32, 1<<32 + 1, -1 << 32} {
				damped, code := impl.DampMixture(m, g, times)
				wantNone(t, "DampMixture", damped, code, impl.ErrRange)
			}
		}
	}
}

func TestDampMixture(t *testing.T) {
	root := at(0x3f3504f3)
	down := mixtureWith(0, 1, 0)
	m := mixtureWith(1, 4, complex(3, -4))
	cases := []struct {
		m     impl.Turn
		g     float32
		times int64
		want  impl.Turn
	}{
		{down, 0.5, 0, down},
		{down, 0.5, 1, mixtureWith(0.5, 0.5, 0)},
		{down, 0.5, 2, mixtureWith(0.75, 0.25, 0)},
		{down, 0.5, 24, mixtureWith(1-power(-24), power(-24), 0)},
		{down, 0.5, 25, mixtureWith(1, power(-25), 0)},
		{down, 0.5, 50, mixtureWith(1, power(-50), 0)},
		{m, 0.75, 1, mixtureWith(4, 1, complex(1.5, -2))},
		{m, 0.75, 2, mixtureWith(4.75, 0.25, complex(0.75, -1))},
		{m, 1, 1, mixtureWith(5, 0, 0)},
		{m, 1, 50, mixtureWith(5, 0, 0)},
		// Two roots of 1/2 are a little less than 1/2.
		{mixtureWith(0, 0, complex(1, -1)), 0.5, 1, mixtureWith(0, 0, complex(root, -root))},
		{mixtureWith(0, 0, i64), 0.5, 2, mixtureWith(0, 0, complex(0, at(0x3effffff)))},
		{impl.Turn{}, 0.5, 50, impl.Turn{}},
		{mixtureWith(1, 0, 0), 0.5, 50, mixtureWith(1, 0, 0)},
		// Half of the least number is rounded to 0, and that of three of them to two.
		{mixtureWith(at(5), at(1), complex(at(1), at(2))), 0.5, 1, mixtureWith(at(5), at(1), complex(at(1), at(1)))},
		{mixtureWith(0, at(3), 0), 0.5, 1, mixtureWith(at(2), at(1), 0)},
		{mixtureWith(0, at(3), 0), 0.5, 50, mixtureWith(at(2), at(1), 0)},
		// 1 less a number below the normal ones is 1.
		{mixtureWith(0, 1, 1), at(1), 1, mixtureWith(at(1), 1, 1)},
		{mixtureWith(0, 1, 1), at(1), 50, mixtureWith(at(50), 1, 1)},
		{mixtureWith(greatest, power(102), 0), 1, 1, mixtureWith(greatest, 0, 0)},
		{mixtureWith(greatest, power(103), 0), 0.5, 50, mixtureWith(greatest, power(53), 0)},
		{mixtureWith(0, greatest, complex(greatest, -greatest)), 1, 1, mixtureWith(greatest, 0, 0)},
	}
	for _, c := range cases {
		got, code := impl.DampMixture(c.m, c.g, c.times)
		wantValue(t, "DampMixture", got, code, c.want)
	}
}

func TestDampMixtureAtTheLimit(t *testing.T) {
	for _, m := range []impl.Turn{mixtureWith(greatest, greatest, 0), mixtureWith(greatest, power(103), 1), mixtureWith(power(127), power(127), 0)} {
		for _, times := range []int64{1, 2, 50} {
			damped, code := impl.DampMixture(m, 1, times)
			wantNone(t, "DampMixture", damped, code, impl.ErrLimit)
		}
		damped, code := impl.DampMixture(m, 1, 0)
		wantValue(t, "DampMixture", damped, code, m)
		damped, code = impl.DampMixture(m, 0, 50)
		wantValue(t, "DampMixture", damped, code, m)
	}
	// The first time leads to the greatest number, and the second one beyond it.
	m := mixtureWith(at(impl.MaxPlace-1), 3*power(104), 0)
	damped, code := impl.DampMixture(m, 0.25, 1)
	wantValue(t, "DampMixture", damped, code, mixtureWith(greatest, 2.25*power(104), 0))
	for _, times := range []int64{2, 3, 50} {
		damped, code = impl.DampMixture(m, 0.25, times)
		wantNone(t, "DampMixture", damped, code, impl.ErrLimit)
	}
}

func TestChannelsExactly(t *testing.T) {
	s := &sampler{state: 107}
	found := 0
	for range samples / 3 {
		m, x, times := s.anyMixtures(1)[0], s.fraction(), s.next(4)
		if s.next(40) == 0 {
			times = s.next(51)
		}
		r := &reckoner{}
		want := r.dephased(m, x)
		dephased, code := impl.DephaseMixture(m, x)
		wantReckoned(t, r, "DephaseMixture", dephased, code, want)
		r = &reckoner{}
		want = r.damped(m, x, times)
		damped, code := impl.DampMixture(m, x, times)
		wantReckoned(t, r, "DampMixture", damped, code, want)
		if code == impl.ErrNone && damped != m && damped != dephased {
			found++
		}
	}
	if found < samples/8 {
		t.Errorf("only %d of %d mixtures say something", found, samples/3)
	}
}

// Promise 6: dephasing with 1 and damping with 0 change nothing.
func TestChannelsThatChangeNothing(t *testing.T) {
	s := &sampler{state: 108}
	list := goodMixtures()
	for range samples {
		list = append(list, s.anyMixtures(1)...)
	}
	for i, m := range list {
		dephased, code := impl.DephaseMixture(m, 1)
		wantValue(t, "DephaseMixture", dephased, code, m)
		for _, times := range []int64{0, 1, int64(i % 51), 50} {
			for _, g := range []float32{0, minusZero} {
				damped, code := impl.DampMixture(m, g, times)
				wantValue(t, "DampMixture", damped, code, m)
			}
		}
		damped, code := impl.DampMixture(m, s.fraction(), 0)
		wantValue(t, "DampMixture", damped, code, m)
	}
}

// Damping several times is damping again and again.
func TestDampingsAreContinued(t *testing.T) {
	s := &sampler{state: 109}
	for range samples / 20 {
		m, g := s.anyMixtures(1)[0], s.fraction()
		want, wantCode := m, int64(impl.ErrNone)
		for times := range int64(51) {
			damped, code := impl.DampMixture(m, g, times)
			wantOutcome(t, "DampMixture", damped, code, want, wantCode)
			if wantCode == impl.ErrNone {
				want, wantCode = impl.DampMixture(want, g, 1)
			}
		}
	}
}
