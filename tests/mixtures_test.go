package tests

import (
	"math"
	"testing"

	"loop.example/g01214/impl"
)

func goodMixtures() []impl.Turn {
	most := complex64(complex(greatest, -greatest))
	list := []impl.Turn{
		{}, unit, mixtureWith(1, 0, 0), mixtureWith(0, 1, 0), mixtureWith(0.5, 0.5, complex(0.25, -0.25)),
		mixtureWith(greatest, greatest, most), mixtureWith(greatest, 0, 0), mixtureWith(0, greatest, -most),
		// Nothing is asked of c but what is told, nor of the trace.
		mixtureWith(0, 0, 1), mixtureWith(0, 0, most), mixtureWith(1, 0, complex(3, 4)), mixtureWith(2, 3, 0),
		{{minusPair, minusPair}, {minusPair, minusPair}},
		{{complex(minusZero, 0), complex(0, minusZero)}, {complex(minusZero, 0), complex(0, minusZero)}},
		{{complex(1, minusZero), complex(minusZero, 1)}, {-i64, complex(2, minusZero)}},
		{{1, 2}, {2, 3}}, {{1, complex(2, minusZero)}, {complex(2, minusZero), 3}},
	}
	for _, x := range []float32{minusZero, at(1), at(2), at(1<<23 - 1), at(1 << 23), greatest} {
		list = append(list, mixtureWith(x, 1, 0.5), mixtureWith(1, x, i64), mixtureWith(x, x, complex(x, -x)))
		list = append(list, mixtureWith(1, 1, complex(x, 0)), mixtureWith(0, 1, complex(0, -x)), mixtureWith(1, 0, complex(-x, at(1))))
	}
	return list
}

// withEntry has another entry at i, j.
func withEntry(m impl.Turn, i, j int, z complex64) impl.Turn {
	m[i][j] = z
	return m
}

// badMixtures are no mixtures, those behind the bad tables each because of one thing.
func badMixtures() []impl.Turn {
	list := badTables()
	for _, m := range []impl.Turn{{}, unit, mixtureWith(1, 2, complex(3, 4)), mixtureWith(greatest, greatest, greatest)} {
		a, d, c := partsOfMixture(m)
		for _, x := range []float32{1, -1, at(1), -at(1), greatest, -greatest} {
			list = append(list, withEntry(m, 0, 0, complex(a, x)), withEntry(m, 1, 1, complex(d, x)))
			list = append(list, withEntry(m, 0, 1, mirrored(c)+complex(x, 0)), withEntry(m, 0, 1, mirrored(c)-complex(0, x)))
			list = append(list, withEntry(m, 1, 0, c-complex(x, 0)), withEntry(m, 1, 0, c+complex(0, x)))
		}
		for _, x := range []float32{1, at(1), at(1 << 23), greatest} {
			list = append(list, withEntry(m, 0, 0, complex(-x, 0)), withEntry(m, 1, 1, complex(-x, minusZero)))
		}
	}
	z := complex(float32(3), 4)
	list = append(list, impl.Turn{{1, z}, {z, 1}}, impl.Turn{{1, -mirrored(z)}, {z, 1}}, impl.Turn{{1, i64}, {i64, 1}})
	list = append(list, impl.Turn{{1, complex(3, at(0x40800001))}, {mirrored(z), 1}}, impl.Turn{{1, complex(at(0x40400001), 4)}, {mirrored(z), 1}})
	// A small x, added to a greater number, left it as it was.
	var none []impl.Turn
	for _, m := range list {
		if !isMixed(m) {
			none = append(none, m)
		}
	}
	return none
}

func TestIsMixture(t *testing.T) {
	for _, m := range goodMixtures() {
		if !impl.IsMixture(m) {
			t.Errorf("IsMixture(%v) is false", m)
		}
	}
	if len(badMixtures()) < len(badTables())+100 {
		t.Errorf("only %d tables are no mixtures", len(badMixtures())-len(badTables()))
	}
	for _, m := range badMixtures() {
		if impl.IsMixture(m) {
			t.Errorf("IsMixture(%v) is true", m)
		}
	}
}

func TestIsMixtureByItsWords(t *testing.T) {
	s := &sampler{state: 100}
	yes := 0
	for range samples {
		m := s.mixtures(1)[0]
		if s.next(2) == 0 {
			i, j := s.next(2), s.next(2)
			m[i][j] = []complex64{-m[i][j], mirrored(m[i][j]), m[j][i], 0, 1, i64}[s.next(6)]
		}
		want := isMixed(m)
		if impl.IsMixture(m) != want {
			t.Errorf("IsMixture(%v) is %v", m, !want)
		}
		if want {
			yes++
		}
	}
	if yes < samples/2 || yes > samples-samples/10 {
		t.Errorf("%d of %d tables are mixtures", yes, samples)
	}
}

// refusingMixture calls a function of one mixture, and expects a code and a zero value.
type refusingMixture func(t *testing.T, m impl.Turn, want int64)

func refusesMixture[T comparable](name string, run func(impl.Turn) (T, int64)) refusingMixture {
	return func(t *testing.T, m impl.Turn, want int64) {
		t.Helper()
		got, code := run(m)
		wantNone(t, name, got, code, want)
	}
}

// oddNumbers are in 0..1, beyond, and none.
var oddNumbers = append([]float32{0, 1, 0.5, -1, 2, greatest}, badParts...)

// oddTimes are in 0..50 and beyond.
var oddTimes = []int64{0, 1, 50, 51, -1, math.MaxInt64, math.MinInt64}

// functionsOfMixtures have other arguments that are right, wrong, and such that lead beyond the
// numbers.
func functionsOfMixtures() []refusingMixture {
	list := []refusingMixture{
		refusesMixture("TraceOfMixture", impl.TraceOfMixture),
		refusesMixture("NormMixture", impl.NormMixture),
		refusesMixture("PurityOf", impl.PurityOf),
		refusesMixture("MixtureVector", impl.MixtureVector),
	}
	for _, a := range []impl.Turn{{}, unit, tableWith(0, greatest, greatest), tableWith(3, badParts[0], 1)} {
		list = append(list,
			refusesMixture("TurnMixture", func(m impl.Turn) (impl.Turn, int64) { return impl.TurnMixture(a, m) }),
			refusesMixture("OverlapOf", func(m impl.Turn) (float32, int64) { return impl.OverlapOf(a, m) }),
			refusesMixture("OverlapOf", func(m impl.Turn) (float32, int64) { return impl.OverlapOf(m, a) }),
			refusesMixture("AddMixtures", func(m impl.Turn) (impl.Turn, int64) { return impl.AddMixtures(a, m) }),
			refusesMixture("AddMixtures", func(m impl.Turn) (impl.Turn, int64) { return impl.AddMixtures(m, a) }),
		)
	}
	for _, x := range oddNumbers {
		list = append(list, refusesMixture("DephaseMixture", func(m impl.Turn) (impl.Turn, int64) { return impl.DephaseMixture(m, x) }))
		for _, n := range oddTimes {
			list = append(list, refusesMixture("DampMixture", func(m impl.Turn) (impl.Turn, int64) { return impl.DampMixture(m, x, n) }))
		}
	}
	for _, s := range []impl.Spinor{{}, {1, i64}, {greatest, greatest}, badSpinors()[0]} {
		list = append(list, refusesMixture("ExpectationOf", func(m impl.Turn) (float32, int64) { return impl.ExpectationOf(m, s) }))
	}
	return list
}

func TestFunctionsRefuseWhatIsNoMixture(t *testing.T) {
	for _, refused := range functionsOfMixtures() {
		for _, m := range badMixtures() {
			refused(t, m, impl.ErrInvalid)
		}
	}
}

func TestMixturesRefuseWhatIsNoNumber(t *testing.T) {
	for _, m := range goodMixtures() {
		for _, x := range badParts {
			dephased, code := impl.DephaseMixture(m, x)
			wantNone(t, "DephaseMixture", dephased, code, impl.ErrInvalid)
			for _, times := range oddTimes {
				damped, code := impl.DampMixture(m, x, times)
				wantNone(t, "DampMixture", damped, code, impl.ErrInvalid)
			}
		}
		for _, a := range badTables() {
			turned, code := impl.TurnMixture(a, m)
			wantNone(t, "TurnMixture", turned, code, impl.ErrInvalid)
		}
		for _, s := range badSpinors() {
			x, code := impl.ExpectationOf(m, s)
			wantNone(t, "ExpectationOf", x, code, impl.ErrInvalid)
		}
	}
}

func TestMixtureOfVectorRefusesWhatIsNoNumber(t *testing.T) {
	for _, x := range badParts {
		for i := range 3 {
			for _, rest := range []float32{0, 1, 2, -2, greatest, x} {
				m, code := impl.MixtureOfVector(vectorWith(i, x, rest))
				wantNone(t, "MixtureOfVector", m, code, impl.ErrInvalid)
			}
		}
	}
}
