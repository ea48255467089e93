package tests

import (
	"slices"
	"testing"

	"loop.example/g01214/impl"
)

func ones(n int) []float32 { return slices.Repeat([]float32{1}, n) }

func TestMixtureOf(t *testing.T) {
	low, high := complex(power(-75), 0), complex(power(63), 0)
	cases := []struct {
		list    []impl.Spinor
		weights []float32
		want    impl.Turn
	}{
		{nil, nil, impl.Turn{}},
		{[]impl.Spinor{}, []float32{}, impl.Turn{}},
		{[]impl.Spinor{{1, 0}}, []float32{1}, mixtureWith(1, 0, 0)},
		{[]impl.Spinor{{0, i64}}, []float32{1}, mixtureWith(0, 1, 0)},
		{[]impl.Spinor{{1, i64}}, []float32{1}, mixtureWith(1, 1, i64)},
		{[]impl.Spinor{{i64, 1}}, []float32{1}, mixtureWith(1, 1, -i64)},
		{[]impl.Spinor{{complex(1, 2), complex(3, -1)}}, []float32{1}, mixtureWith(5, 10, complex(1, -7))},
		{[]impl.Spinor{{complex(1, 2), complex(3, -1)}}, []float32{0.5}, mixtureWith(2.5, 5, complex(0.5, -3.5))},
		{[]impl.Spinor{{1, i64}, {1, 1}}, []float32{2, 3}, mixtureWith(5, 5, complex(3, 2))},
		{[]impl.Spinor{{1, 0}, {0, 1}}, []float32{0.5, 0.5}, mixtureWith(0.5, 0.5, 0)},
		{[]impl.Spinor{{1, 1}, {1, -1}}, []float32{1, 1}, mixtureWith(2, 2, 0)},
		{[]impl.Spinor{{1, i64}, {complex(3, 4), 7}}, []float32{0, minusZero}, impl.Turn{}},
		{[]impl.Spinor{{1, i64}, {3, 7}, {1, 1}}, []float32{1, 0, 1}, mixtureWith(2, 2, complex(1, 1))},
		{[]impl.Spinor{{}, {minusPair, minusPair}}, []float32{greatest, 1}, impl.Turn{}},
		// The sum is made from the left: 2^24 and 1 are 2^24, and so they stay with another 1.
		{[]impl.Spinor{{4096, 1}, {1, 1}, {1, 4096}}, ones(3), mixtureWith(1<<24, 1<<24+2, 8193)},
		{[]impl.Spinor{{1, 1}, {1, 1}, {4096, 4096}}, ones(3), mixtureWith(1<<24+2, 1<<24+2, 1<<24+2)},
		// Squares are rounded before they are weighted.
		{[]impl.Spinor{{low, 1}}, []float32{power(100)}, mixtureWith(0, power(100), complex(power(25), 0))},
		{[]impl.Spinor{{low, low}}, []float32{power(100)}, impl.Turn{}},
		{[]impl.Spinor{{high, i64 * high}}, []float32{power(-100)}, mixtureWith(power(26), power(26), complex(0, power(26)))},
		{[]impl.Spinor{{complex(power(-74), 0), 1}}, []float32{0.5}, mixtureWith(at(1), 0.5, complex(power(-75), 0))},
		{[]impl.Spinor{{1, complex(at(1), at(3))}}, []float32{0.5}, mixtureWith(0.5, 0, complex(0, at(2)))},
		{[]impl.Spinor{{1, 1}}, []float32{greatest}, mixtureWith(greatest, greatest, greatest)},
	}
	for _, c := range cases {
		m, code := impl.MixtureOf(c.list, c.weights)
		wantValue(t, "MixtureOf", m, code, c.want)
	}
}

func TestMixtureOfManySpinors(t *testing.T) {
	if impl.MaxMixed != 20 {
		t.Errorf("MaxMixed = %d", impl.MaxMixed)
	}
	for n := range 24 {
		m, code := impl.MixtureOf(repeatedSpinor(impl.Spinor{1, i64}, n), ones(n))
		if n <= 20 {
			wantValue(t, "MixtureOf", m, code, mixtureWith(float32(n), float32(n), complex(0, float32(n))))
		} else {
			wantNone(t, "MixtureOf", m, code, impl.ErrRange)
		}
	}
}

func TestMixtureOfCountsWeights(t *testing.T) {
	most := impl.Spinor{greatest, greatest}
	for n := range 23 {
		for weights := range 23 {
			if n == weights {
				continue
			}
			for _, s := range []impl.Spinor{{}, {1, i64}, most} {
				m, code := impl.MixtureOf(repeatedSpinor(s, n), ones(weights))
				wantNone(t, "MixtureOf", m, code, impl.ErrRange)
			}
		}
	}
	m, code := impl.MixtureOf(repeatedSpinor(most, 21), ones(21))
	wantNone(t, "MixtureOf", m, code, impl.ErrRange)
}

func TestMixtureOfRefusesNegativeWeights(t *testing.T) {
	for _, x := range []float32{-1, -at(1), -at(1 << 23), -greatest} {
		for i := range 20 {
			weights := ones(20)
			weights[i] = x
			for _, s := range []impl.Spinor{{}, {1, i64}, {greatest, greatest}} {
				m, code := impl.MixtureOf(repeatedSpinor(s, 20), weights)
				wantNone(t, "MixtureOf", m, code, impl.ErrRange)
			}
		}
		m, code := impl.MixtureOf(nil, []float32{x})
		wantNone(t, "MixtureOf", m, code, impl.ErrRange)
	}
}

// ErrInvalid comes ahead of ErrRange, whatever comes first in the lists.
func TestMixtureOfRefusesWhatIsNoNumber(t *testing.T) {
	for i, bad := range badSpinors() {
		for _, n := range []int{1, 2, 20, 21, 30} {
			list := repeatedSpinor(impl.Spinor{greatest, 1}, n)
			list[i%n] = bad
			for _, weights := range [][]float32{ones(n), nil, ones(n + 1), slices.Repeat([]float32{-1}, n), slices.Repeat([]float32{0}, n)} {
				m, code := impl.MixtureOf(list, weights)
				wantNone(t, "MixtureOf", m, code, impl.ErrInvalid)
			}
		}
	}
	for i, bad := range badParts {
		for _, n := range []int{1, 2, 20, 21, 30} {
			for _, other := range []float32{0, 1, -1} {
				weights := slices.Repeat([]float32{other}, n)
				weights[(n-1+i)%n] = bad
				for _, count := range []int{0, 1, n, n + 1} {
					m, code := impl.MixtureOf(repeatedSpinor(impl.Spinor{greatest, 1}, count), weights)
					wantNone(t, "MixtureOf", m, code, impl.ErrInvalid)
				}
			}
		}
	}
}

func TestMixtureOfAtTheLimit(t *testing.T) {
	big := complex(power(64), 0)
	cases := []struct {
		list    []impl.Spinor
		weights []float32
	}{
		// The mixture of a spinor is not finite, whatever its weight.
		{[]impl.Spinor{{big, 0}}, []float32{0}},
		{[]impl.Spinor{{0, -i64 * big}}, []float32{power(-100)}},
		{[]impl.Spinor{{1, 1}, {complex(1.5*power(63), 1.5*power(63)), 0}}, []float32{1, 0}},
		{[]impl.Spinor{{2, 0}}, []float32{greatest}},
		{[]impl.Spinor{{0, i64 * 2}}, []float32{power(126)}},
		{[]impl.Spinor{{1, 0}, {1, 0}}, []float32{greatest, power(103)}},
		{[]impl.Spinor{{0, 1}, {0, 1}, {1, 0}}, []float32{power(127), power(127), 1}},
		{[]impl.Spinor{{complex(power(63), 0), complex(power(63), 0)}}, []float32{4}},
	}
	for _, c := range cases {
		m, code := impl.MixtureOf(c.list, c.weights)
		wantNone(t, "MixtureOf", m, code, impl.ErrLimit)
	}
	m, code := impl.MixtureOf([]impl.Spinor{{1, 0}, {1, 0}}, []float32{greatest, power(102)})
	wantValue(t, "MixtureOf", m, code, mixtureWith(greatest, 0, 0))
}

func TestMixtureOfExactly(t *testing.T) {
	s := &sampler{state: 101}
	found := 0
	for i := range samples / 2 {
		n := int(s.next(5))
		if i%100 == 0 {
			n = 20
		}
		list, weights, r := s.spinors(n), s.weights(n), &reckoner{}
		want := r.weighted(list, weights)
		listBefore, weightsBefore := slices.Clone(list), slices.Clone(weights)
		m, code := impl.MixtureOf(list, weights)
		wantReckoned(t, r, "MixtureOf", m, code, want)
		if !slices.Equal(list, listBefore) || !slices.Equal(weights, weightsBefore) {
			t.Errorf("MixtureOf changed its arguments")
		}
		if code == impl.ErrNone && m != (impl.Turn{}) {
			found++
		}
	}
	if found < samples/6 {
		t.Errorf("only %d of %d mixtures say something", found, samples/2)
	}
}

// Promise 14: mixtures of one spinor have its vector and its norm square as trace.
func TestMixturesOfOneSpinor(t *testing.T) {
	s := &sampler{state: 102}
	list := goodSpinors()
	for range samples {
		list = append(list, s.spinors(1)...)
	}
	found := 0
	for _, one := range list {
		m, code := impl.MixtureOf([]impl.Spinor{one}, []float32{1})
		vector, codeVector := impl.VectorOf(one)
		square, codeSquare := impl.NormSquareOf(one)
		if code != impl.ErrNone {
			wantNone(t, "VectorOf", vector, codeVector, code)
			wantNone(t, "NormSquareOf", square, codeSquare, code)
			continue
		}
		got, code := impl.MixtureVector(m)
		if got != vector || code != codeVector {
			t.Errorf("of %v: the vectors %v, %d and %v, %d", one, vector, codeVector, got, code)
		}
		trace, code := impl.TraceOfMixture(m)
		if trace != square || code != codeSquare {
			t.Errorf("of %v: %v, %d and the trace %v, %d", one, square, codeSquare, trace, code)
		}
		if vector != (impl.Vector{}) && square != 0 {
			found++
		}
	}
	if found < samples/2 {
		t.Errorf("only %d of %d spinors say something", found, len(list))
	}
}

// Promise 14, with vectors and norm squares that are found without the program.
func TestMixturesOfKnownSpinors(t *testing.T) {
	cases := []struct {
		s      impl.Spinor
		vector impl.Vector
		trace  float32
	}{
		{impl.Spinor{}, impl.Vector{}, 0},
		{impl.Spinor{1, 0}, impl.Vector{0, 0, 1}, 1},
		{impl.Spinor{0, i64}, impl.Vector{0, 0, -1}, 1},
		{impl.Spinor{1, i64}, impl.Vector{0, 2, 0}, 2},
		{impl.Spinor{i64, 1}, impl.Vector{0, -2, 0}, 2},
		{impl.Spinor{complex(1, 2), complex(3, -1)}, impl.Vector{2, -14, -5}, 15},
		{impl.Spinor{complex(power(-75), 0), 1}, impl.Vector{power(-74), 0, -1}, 1},
		{impl.Spinor{complex(power(-74), 0), complex(0, at(1))}, impl.Vector{0, 0, power(-148)}, power(-148)},
		{impl.Spinor{complex(power(63), 0), i64}, impl.Vector{0, power(64), power(126)}, power(126)},
	}
	for _, c := range cases {
		m, code := impl.MixtureOf([]impl.Spinor{c.s}, []float32{1})
		if code != impl.ErrNone {
			t.Errorf("MixtureOf %v: the code %d", c.s, code)
		}
		v, code := impl.MixtureVector(m)
		wantValue(t, "MixtureVector", v, code, c.vector)
		trace, code := impl.TraceOfMixture(m)
		wantValue(t, "TraceOfMixture", trace, code, c.trace)
	}
}
