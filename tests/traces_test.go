package tests

import (
	"testing"

	"loop.example/g01214/impl"
)

func TestTraceOfMixture(t *testing.T) {
	cases := []struct {
		m    impl.Turn
		want float32
	}{
		{impl.Turn{}, 0},
		{impl.Turn{{minusPair, 1}, {1, minusPair}}, 0},
		{unit, 2},
		{mixtureWith(1, 0, 0), 1},
		{mixtureWith(0, 3, complex(greatest, -greatest)), 3},
		{mixtureWith(at(1), at(2), i64), at(3)},
		{mixtureWith(at(1<<23-1), at(1), 0), at(1 << 23)},
		{mixtureWith(1<<24, 1, 0), 1 << 24},
		{mixtureWith(3, 1<<24, 0), 1<<24 + 4},
		{mixtureWith(greatest, power(102), 0), greatest},
	}
	for _, c := range cases {
		trace, code := impl.TraceOfMixture(c.m)
		wantValue(t, "TraceOfMixture", trace, code, c.want)
	}
	for _, m := range []impl.Turn{mixtureWith(greatest, greatest, 0), mixtureWith(power(103), greatest, 1), mixtureWith(power(127), power(127), 0)} {
		trace, code := impl.TraceOfMixture(m)
		wantNone(t, "TraceOfMixture", trace, code, impl.ErrLimit)
		normed, code := impl.NormMixture(m)
		wantNone(t, "NormMixture", normed, code, impl.ErrLimit)
	}
}

func TestNormMixture(t *testing.T) {
	third := at(0x3eaaaaab)
	cases := [][2]impl.Turn{
		{unit, mixtureWith(0.5, 0.5, 0)},
		{mixtureWith(1, 0, 0), mixtureWith(1, 0, 0)},
		{mixtureWith(0, 4, complex(2, -1)), mixtureWith(0, 1, complex(0.5, -0.25))},
		{mixtureWith(1, 2, complex(-1, 1)), mixtureWith(third, 2*third, complex(-third, third))},
		{mixtureWith(at(1), at(1), complex(at(1), -at(3))), mixtureWith(0.5, 0.5, complex(0.5, -1.5))},
		{mixtureWith(at(1), 1, complex(at(1), 0)), mixtureWith(at(1), 1, complex(at(1), 0))},
		{mixtureWith(at(3), 2, complex(at(1), at(3))), mixtureWith(at(2), 1, complex(0, at(2)))},
		{mixtureWith(greatest, 0, complex(greatest, -greatest)), mixtureWith(1, 0, complex(1, -1))},
		{mixtureWith(0.5, 0, complex(power(126), 0)), mixtureWith(1, 0, complex(power(127), 0))},
	}
	for _, c := range cases {
		m, code := impl.NormMixture(c[0])
		wantValue(t, "NormMixture", m, code, c[1])
	}
}

func TestNormMixtureErrors(t *testing.T) {
	for _, c := range []complex64{0, minusPair, 1, complex(0, at(1)), complex(greatest, -greatest)} {
		for _, zero := range []float32{0, minusZero} {
			m, code := impl.NormMixture(mixtureWith(zero, zero, c))
			wantNone(t, "NormMixture", m, code, impl.ErrState)
		}
	}
	// Only a part of c leads beyond the numbers.
	for _, c := range []complex64{complex(power(127), 0), complex(0, -power(127)), complex(1, greatest), complex(-greatest, 1)} {
		for _, m := range []impl.Turn{mixtureWith(0.5, 0, c), mixtureWith(0, at(1), c), mixtureWith(at(1), at(1), c)} {
			normed, code := impl.NormMixture(m)
			wantNone(t, "NormMixture", normed, code, impl.ErrLimit)
		}
	}
}

func TestPurityOf(t *testing.T) {
	low := power(-75)
	cases := []struct {
		m    impl.Turn
		want float32
	}{
		{impl.Turn{}, 0},
		{mixtureWith(1, 0, 0), 1},
		{mixtureWith(0.5, 0.5, 0), 0.5},
		{mixtureWith(0.5, 0.5, complex(0, 0.5)), 1},
		{mixtureWith(1, 2, complex(3, -4)), 55},
		{mixtureWith(0, minusZero, 2), 8},
		// Each of the squares is rounded to 0, and so is that of c, but not that of greater ones.
		{mixtureWith(low, low, complex(low, 0)), 0},
		{mixtureWith(low, low, complex(low, low)), at(2)},
		{mixtureWith(2*low, low, 0), at(2)},
		// 4097 times 4097 is rounded to 4096 times 4098, and 1 is lost in it.
		{mixtureWith(4097, 1, 0), 4096 * 4098},
		{mixtureWith(1, 0, complex(4097, 0)), 2 * 4096 * 4098},
		{mixtureWith(power(63), power(63), 0), power(127)},
		{mixtureWith(0, 0, complex(power(63), 0)), power(127)},
	}
	for _, c := range cases {
		purity, code := impl.PurityOf(c.m)
		wantValue(t, "PurityOf", purity, code, c.want)
	}
	big := power(64)
	for _, m := range []impl.Turn{
		mixtureWith(big, 0, 0), mixtureWith(0, big, 0), mixtureWith(0, 0, complex(0, big)), mixtureWith(1.5*power(63), 1.5*power(63), 0),
		mixtureWith(0, 0, complex(1.5*power(63), 0)), mixtureWith(power(63), power(63), complex(power(63), 0)), mixtureWith(greatest, greatest, greatest),
	} {
		purity, code := impl.PurityOf(m)
		wantNone(t, "PurityOf", purity, code, impl.ErrLimit)
	}
}

func TestMixtureVector(t *testing.T) {
	cases := []struct {
		m    impl.Turn
		want impl.Vector
	}{
		{impl.Turn{}, impl.Vector{}},
		{mixtureWith(1, 0, 0), impl.Vector{0, 0, 1}},
		{mixtureWith(0, 1, i64), impl.Vector{0, 2, -1}},
		{mixtureWith(5, 10, complex(1, -7)), impl.Vector{2, -14, -5}},
		{mixtureWith(1, 1<<24, complex(at(1), at(1<<23-1))), impl.Vector{at(2), at(1<<24 - 2), 1 - 1<<24}},
		{mixtureWith(at(1), at(2), complex(minusZero, 0)), impl.Vector{0, 0, -at(1)}},
		{mixtureWith(greatest, greatest, complex(power(126), -power(126))), impl.Vector{power(127), -power(127), 0}},
		{mixtureWith(0, greatest, 0), impl.Vector{0, 0, -greatest}},
	}
	for _, c := range cases {
		v, code := impl.MixtureVector(c.m)
		wantValue(t, "MixtureVector", v, code, c.want)
	}
	for _, c := range []complex64{complex(power(127), 0), complex(0, power(127)), complex(-power(127), 1), complex(1, -greatest)} {
		v, code := impl.MixtureVector(mixtureWith(1, 1, c))
		wantNone(t, "MixtureVector", v, code, impl.ErrLimit)
	}
}

func TestNumbersOfMixturesExactly(t *testing.T) {
	s := &sampler{state: 103}
	list := goodMixtures()
	for range samples / 2 {
		list = append(list, s.anyMixtures(1)...)
	}
	codes := map[int64]int{}
	for _, m := range list {
		r := &reckoner{}
		want := r.trace(m)
		trace, code := impl.TraceOfMixture(m)
		wantReckoned(t, r, "TraceOfMixture", trace, code, want)
		r = &reckoner{}
		want = r.purity(m)
		purity, code := impl.PurityOf(m)
		wantReckoned(t, r, "PurityOf", purity, code, want)
		r = &reckoner{}
		wantVector := r.mixtureVector(m)
		v, code := impl.MixtureVector(m)
		wantReckoned(t, r, "MixtureVector", v, code, wantVector)
		wantNormed, wantCode := new(reckoner).normed(m)
		normed, code := impl.NormMixture(m)
		wantOutcome(t, "NormMixture", normed, code, wantNormed, wantCode)
		codes[code]++
	}
	if codes[impl.ErrNone] < samples/4 || codes[impl.ErrState] == 0 || codes[impl.ErrLimit] < 10 {
		t.Errorf("NormMixture gave the codes %v", codes)
	}
}

func TestMixtureOfVector(t *testing.T) {
	below := at(0x3f7fffff)
	cases := []struct {
		v    impl.Vector
		want impl.Turn
	}{
		{impl.Vector{}, mixtureWith(0.5, 0.5, 0)},
		{impl.Vector{minusZero, minusZero, minusZero}, mixtureWith(0.5, 0.5, 0)},
		{impl.Vector{0, 0, 1}, mixtureWith(1, 0, 0)},
		{impl.Vector{0, 0, -1}, mixtureWith(0, 1, 0)},
		{impl.Vector{1, 0, 0}, mixtureWith(0.5, 0.5, 0.5)},
		{impl.Vector{0, 1, 0}, mixtureWith(0.5, 0.5, complex(0, 0.5))},
		{impl.Vector{0.5, -0.25, 0.5}, mixtureWith(0.75, 0.25, complex(0.25, -0.125))},
		{impl.Vector{3, -4, 0}, mixtureWith(0.5, 0.5, complex(1.5, -2))},
		{impl.Vector{0, 0, below}, mixtureWith(1, power(-25), 0)},
		{impl.Vector{0, 0, -below}, mixtureWith(power(-25), 1, 0)},
		{impl.Vector{at(1), -at(3), at(1)}, mixtureWith(0.5, 0.5, complex(0, -at(2)))},
		{impl.Vector{at(2), -at(1), -at(1)}, mixtureWith(0.5, 0.5, complex(at(1), 0))},
		{impl.Vector{greatest, -greatest, 1}, mixtureWith(1, 0, complex(at(0x7effffff), -at(0x7effffff)))},
	}
	for _, c := range cases {
		m, code := impl.MixtureOfVector(c.v)
		wantValue(t, "MixtureOfVector", m, code, c.want)
	}
}

func TestMixtureOfVectorThatIsNone(t *testing.T) {
	for _, z := range []float32{at(0x3f800001), 1.5, 2, power(24), power(25), power(127), greatest} {
		for _, x := range []float32{0, 1, -greatest} {
			for _, v := range []impl.Vector{{x, 0, z}, {0, x, -z}, {x, x, z}, {x, x, -z}} {
				m, code := impl.MixtureOfVector(v)
				wantNone(t, "MixtureOfVector", m, code, impl.ErrState)
			}
		}
	}
}

func TestMixtureOfVectorExactly(t *testing.T) {
	s := &sampler{state: 104}
	codes := map[int64]int{}
	for range samples {
		v := impl.Vector(s.together(3))
		if s.next(2) == 0 {
			v[2] = s.fraction() - s.fraction()
		}
		want, wantCode := new(reckoner).mixtureFor(v)
		m, code := impl.MixtureOfVector(v)
		wantOutcome(t, "MixtureOfVector", m, code, want, wantCode)
		codes[code]++
	}
	if codes[impl.ErrNone] < samples/4 || codes[impl.ErrState] < samples/10 || codes[impl.ErrLimit] != 0 {
		t.Errorf("MixtureOfVector gave the codes %v", codes)
	}
}
