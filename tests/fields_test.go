package tests

import (
	"math"
	"runtime"
	"slices"
	"testing"
	"time"

	"loop.example/g01214/impl"
)

// Fields of which steps are found without any rounding: with h = 2 they are half turns about an axis.
var alongX, alongY, alongZ = impl.Vector{1, 0, 0}, impl.Vector{0, 1, 0}, impl.Vector{0, 0, 1}

var (
	halfX = impl.Turn{{0, -i64}, {-i64, 0}}
	halfY = impl.Turn{{0, -1}, {1, 0}}
	halfZ = impl.Turn{{-i64, 0}, {0, i64}}
)

// endless is a field of numbers of which no step is finite.
var endless = impl.Vector{greatest, 0, 0}

// tooFar is an h with which no step of any field is finite.
var tooFar = power(65)

func badVectors() []impl.Vector {
	var list []impl.Vector
	for _, x := range badParts {
		for i := range 3 {
			for _, rest := range []float32{0, 1, greatest, x} {
				list = append(list, vectorWith(i, x, rest))
			}
		}
	}
	return list
}

// wantNoStep expects a code of all functions of one field with an h, n, and a spinor.
func wantNoStep(t *testing.T, b impl.Vector, h float32, n int64, s impl.Spinor, want int64) {
	t.Helper()
	spinor, code := impl.Precess(b, h, n, s)
	wantNone(t, "Precess", spinor, code, want)
	vectors, code := impl.PrecessVectors(b, h, n, s)
	wantNoList(t, "PrecessVectors", vectors, code, want)
	for _, other := range []impl.Vector{b, alongZ, endless} {
		spinor, code = impl.RunRamp(b, other, h, n, s)
		wantNone(t, "RunRamp", spinor, code, want)
		spinor, code = impl.RunRamp(other, b, h, n, s)
		wantNone(t, "RunRamp", spinor, code, want)
	}
}

// wantNoField expects a code of all functions of one field with an h alone.
func wantNoField(t *testing.T, b impl.Vector, h float32, want int64) {
	t.Helper()
	table, code := impl.StepOfField(b, h)
	wantNone(t, "StepOfField", table, code, want)
	table, code = impl.SplitStep(b, h)
	wantNone(t, "SplitStep", table, code, want)
	x, code := impl.ErrorOfStep(b, h)
	wantNone(t, "ErrorOfStep", x, code, want)
}

// anyNumbers are counts in and out of all ranges: ErrInvalid comes ahead of ErrRange.
var anyNumbers = []int64{1, 0, 300, -1, 301, math.MaxInt64, math.MinInt64}

func TestFieldsRefuseWhatIsNoVector(t *testing.T) {
	for _, bad := range badVectors() {
		for _, h := range []float32{1, 0, tooFar, badParts[0]} {
			wantNoField(t, bad, h, impl.ErrInvalid)
			for _, e := range []float32{0, 1, -1, badParts[1]} {
				x, code := impl.ChooseStep(bad, h, e)
				wantNone(t, "ChooseStep", x, code, impl.ErrInvalid)
			}
			for _, n := range anyNumbers {
				wantNoStep(t, bad, h, n, up, impl.ErrInvalid)
				drifts, code := impl.DriftOfPrecession(bad, h, n)
				wantNoList(t, "DriftOfPrecession", drifts, code, impl.ErrInvalid)
			}
		}
		energy, code := impl.EnergyOf(bad, impl.Spinor{1, greatest})
		wantNone(t, "EnergyOf", energy, code, impl.ErrInvalid)
	}
}

func TestProductsAndRampsRefuseWhatIsNoVector(t *testing.T) {
	for _, bad := range badVectors() {
		for _, other := range []impl.Vector{{}, {1, 2, 3}, {-greatest, greatest, greatest}, bad} {
			for _, pair := range [][2]impl.Vector{{bad, other}, {other, bad}} {
				x, code := impl.InnerOfVectors(pair[0], pair[1])
				wantNone(t, "InnerOfVectors", x, code, impl.ErrInvalid)
				v, code := impl.CrossOfVectors(pair[0], pair[1])
				wantNone(t, "CrossOfVectors", v, code, impl.ErrInvalid)
				for _, n := range anyNumbers {
					fields, code := impl.RampFields(pair[0], pair[1], n)
					wantNoList(t, "RampFields", fields, code, impl.ErrInvalid)
				}
			}
		}
	}
}

func TestFieldsRefuseWhatIsNoNumber(t *testing.T) {
	for _, bad := range badParts {
		for _, b := range []impl.Vector{{}, alongZ, endless} {
			wantNoField(t, b, bad, impl.ErrInvalid)
			for _, other := range []float32{1, 0, -1, tooFar, bad} {
				x, code := impl.ChooseStep(b, bad, other)
				wantNone(t, "ChooseStep", x, code, impl.ErrInvalid)
				x, code = impl.ChooseStep(b, other, bad)
				wantNone(t, "ChooseStep", x, code, impl.ErrInvalid)
			}
			for _, n := range anyNumbers {
				wantNoStep(t, b, bad, n, up, impl.ErrInvalid)
				drifts, code := impl.DriftOfPrecession(b, bad, n)
				wantNoList(t, "DriftOfPrecession", drifts, code, impl.ErrInvalid)
			}
		}
	}
}

func TestFieldsRefuseWhatIsNoSpinor(t *testing.T) {
	for _, bad := range badSpinors() {
		for _, b := range []impl.Vector{{}, {1, 2, 3}, endless} {
			energy, code := impl.EnergyOf(b, bad)
			wantNone(t, "EnergyOf", energy, code, impl.ErrInvalid)
			for _, n := range anyNumbers {
				wantNoStep(t, b, 1, n, bad, impl.ErrInvalid)
			}
		}
	}
}

// ErrRange comes ahead of ErrLimit.
func TestStepsRefuseOtherNumbers(t *testing.T) {
	if impl.MaxSteps != 300 || impl.MaxHalved != 20 {
		t.Errorf("MaxSteps = %d, MaxHalved = %d", impl.MaxSteps, impl.MaxHalved)
	}
	beyond := []int64{-1, -2, -300, 301, 302, 600, 1 << 32, 1<<32 + 1, -1 << 32, math.MaxInt64, math.MinInt64}
	for _, b := range []impl.Vector{{}, alongZ, endless} {
		for _, h := range []float32{0, 2, tooFar} {
			for _, n := range beyond {
				wantNoStep(t, b, h, n, up, impl.ErrRange)
			}
			for _, n := range append(beyond, 0) {
				drifts, code := impl.DriftOfPrecession(b, h, n)
				wantNoList(t, "DriftOfPrecession", drifts, code, impl.ErrRange)
				fields, code := impl.RampFields(b, turnedRound(b), n)
				wantNoList(t, "RampFields", fields, code, impl.ErrRange)
				s, code := impl.RunRamp(b, turnedRound(b), h, n, impl.Spinor{greatest, greatest})
				wantNone(t, "RunRamp", s, code, impl.ErrRange)
			}
		}
	}
}

func TestStepsOfAllNumbers(t *testing.T) {
	half := []impl.Spinor{{1, 0}, {0, 1}, {-1, 0}, {0, -1}}
	for n := int64(0); n <= 300; n++ {
		s, code := impl.Precess(alongY, 2, n, up)
		wantValue(t, "Precess", s, code, half[n%4])
		vectors, code := impl.PrecessVectors(alongY, 2, n, up)
		wantList(t, "PrecessVectors", vectors, code, slices.Repeat([]impl.Vector{{0, 0, 1}, {0, 0, -1}}, 151)[:n+1])
		if n == 0 {
			continue
		}
		s, code = impl.RunRamp(alongY, alongY, 2, n, up)
		wantValue(t, "RunRamp", s, code, half[n%4])
		fields, code := impl.RampFields(alongY, alongY, n)
		wantList(t, "RampFields", fields, code, slices.Repeat([]impl.Vector{alongY}, int(n)))
		drifts, code := impl.DriftOfPrecession(alongY, 2, n)
		wantList(t, "DriftOfPrecession", drifts, code, make([]float32, n))
	}
}

// Neither the steps that are sent nor the goroutines that send them outlive a call, even one that
// ends with an error before the last step.
func TestNoGoroutineStays(t *testing.T) {
	before := runtime.NumGoroutine()
	most := impl.Spinor{greatest, greatest}
	for range 50 {
		impl.Precess(alongY, 1, 300, up)
		impl.Precess(alongY, 1, 300, most)
		impl.PrecessVectors(alongY, 1, 300, most)
		impl.RunRamp(alongX, alongY, 1, 300, most)
		impl.RunRamp(impl.Vector{}, impl.Vector{power(65), 0, 0}, 1, 300, up)
		impl.RunRamp(alongX, alongY, tooFar, 300, up)
	}
	for range 1000 {
		if runtime.NumGoroutine() <= before {
			return
		}
		time.Sleep(time.Millisecond)
	}
	t.Errorf("%d goroutines stay, %d were there before", runtime.NumGoroutine(), before)
}
