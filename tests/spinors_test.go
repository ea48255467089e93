package tests

import (
	"math"
	"slices"
	"testing"

	"loop.example/g01214/impl"
)

const i64 = complex64(1i)

var minusPair = complex(minusZero, minusZero)

// spinorWith has x as one of its four parts, and rest as the other ones.
func spinorWith(part int, x, rest float32) impl.Spinor {
	parts := []float32{rest, rest, rest, rest}
	parts[part] = x
	return impl.Spinor{complex(parts[0], parts[1]), complex(parts[2], parts[3])}
}

// badSpinors are no spinors because of one part, or of all of them. The others would often lead to
// another error.
func badSpinors() []impl.Spinor {
	var list []impl.Spinor
	for _, x := range badParts {
		for part := range 4 {
			for _, rest := range []float32{0, 1, greatest, x} {
				list = append(list, spinorWith(part, x, rest))
			}
		}
	}
	return list
}

func goodSpinors() []impl.Spinor {
	list := []impl.Spinor{{}, {1, i64}, {complex(greatest, -greatest), complex(-greatest, greatest)}}
	for part := range 4 {
		for _, x := range []float32{0, minusZero, power(-149), -power(-149), at(1<<23 - 1), greatest, -greatest} {
			list = append(list, spinorWith(part, x, 1), spinorWith(part, x, minusZero))
		}
	}
	return list
}

// refusing calls a function of one spinor, and expects a code and a zero value.
type refusing func(t *testing.T, s impl.Spinor, want int64)

func refuses[T comparable](name string, run func(impl.Spinor) (T, int64)) refusing {
	return func(t *testing.T, s impl.Spinor, want int64) {
		t.Helper()
		got, code := run(s)
		wantNone(t, name, got, code, want)
	}
}

func functionsOfOne() []refusing {
	list := []refusing{
		refuses("NormSquareOf", impl.NormSquareOf),
		refuses("RenewSpinor", impl.RenewSpinor),
		refuses("VectorOf", impl.VectorOf),
		refuses("OppositeOf", impl.OppositeOf),
		refuses("GreatestPart", impl.GreatestPart),
		wantNotFreed,
	}
	for _, k := range []int64{0, 1, 300, -300, 301, -301, math.MaxInt64, math.MinInt64} {
		list = append(list, refuses("ShiftSpinor", func(s impl.Spinor) (impl.Spinor, int64) {
			return impl.ShiftSpinor(s, k)
		}))
	}
	return list
}

func TestIsSpinor(t *testing.T) {
	for _, s := range goodSpinors() {
		if !impl.IsSpinor(s) {
			t.Errorf("IsSpinor(%v) is false", s)
		}
	}
	for _, s := range badSpinors() {
		if impl.IsSpinor(s) {
			t.Errorf("IsSpinor(%v) is true", s)
		}
	}
}

func TestFunctionsOfOneRefuseWhatIsNoSpinor(t *testing.T) {
	for _, refuse := range functionsOfOne() {
		for _, s := range badSpinors() {
			refuse(t, s, impl.ErrInvalid)
		}
	}
}

func TestFunctionsOfTwoRefuseWhatIsNoSpinor(t *testing.T) {
	for _, bad := range badSpinors() {
		for _, other := range []impl.Spinor{{}, {1, i64}, {greatest, greatest}, bad} {
			for _, pair := range [][2]impl.Spinor{{bad, other}, {other, bad}} {
				sum, code := impl.AddSpinors(pair[0], pair[1])
				wantNone(t, "AddSpinors", sum, code, impl.ErrInvalid)
				inner, code := impl.InnerOf(pair[0], pair[1])
				wantNone(t, "InnerOf", inner, code, impl.ErrInvalid)
				transition, code := impl.TransitionOf(pair[0], pair[1])
				wantNone(t, "TransitionOf", transition, code, impl.ErrInvalid)
				for _, k := range []int64{0, math.MaxInt64, -1, math.MinInt64} {
					near, code := impl.NearSpinors(pair[0], pair[1], k)
					wantNone(t, "NearSpinors", near, code, impl.ErrInvalid)
				}
			}
		}
	}
}

func TestAddSpinors(t *testing.T) {
	s := impl.Spinor{complex(1, 2), complex(3, -4)}
	sum, code := impl.AddSpinors(s, impl.Spinor{complex(10, -20), complex(-30, 40)})
	wantValue(t, "AddSpinors", sum, code, impl.Spinor{complex(11, -18), complex(-27, 36)})
	sum, code = impl.AddSpinors(s, impl.Spinor{complex(minusZero, 0), minusPair})
	wantValue(t, "AddSpinors", sum, code, s)
	tiny, sub := at(1), at(1<<23-1)
	sum, code = impl.AddSpinors(impl.Spinor{complex(tiny, sub), 1 << 24}, impl.Spinor{complex(tiny, tiny), 1})
	wantValue(t, "AddSpinors", sum, code, impl.Spinor{complex(at(2), at(1<<23)), 1 << 24})
	for part := range 4 {
		for _, sign := range []float32{1, -1} {
			most, bound, below := spinorWith(part, sign*greatest, 0), spinorWith(part, sign*power(103), 0), spinorWith(part, sign*power(102), 0)
			sum, code = impl.AddSpinors(most, bound)
			wantNone(t, "AddSpinors", sum, code, impl.ErrLimit)
			sum, code = impl.AddSpinors(most, below)
			wantValue(t, "AddSpinors", sum, code, most)
		}
	}
}

func TestAddSpinorsExactly(t *testing.T) {
	s := &sampler{state: 21}
	for range samples {
		a, r := s.spinors(2), &reckoner{}
		want := impl.Spinor{r.plus(a[0][0], a[1][0]), r.plus(a[0][1], a[1][1])}
		sum, code := impl.AddSpinors(a[0], a[1])
		wantReckoned(t, r, "AddSpinors", sum, code, want)
	}
}

func TestScaleSpinor(t *testing.T) {
	cases := []struct {
		z       complex64
		s, want impl.Spinor
	}{
		{i64, impl.Spinor{1, i64}, impl.Spinor{i64, -1}},
		{complex(1, 2), impl.Spinor{complex(3, -1), complex(0, 1)}, impl.Spinor{complex(5, 5), complex(-2, 1)}},
		{0, impl.Spinor{greatest, greatest}, impl.Spinor{}},
		{complex(minusZero, minusZero), impl.Spinor{1, -1}, impl.Spinor{}},
		{complex(0.5, 0), impl.Spinor{complex(at(1), at(3)), complex(at(1<<23), at(5))}, impl.Spinor{complex(0, at(2)), complex(at(1<<22), at(2))}},
		{4097, impl.Spinor{4097, complex(0, -4097)}, impl.Spinor{1<<24 + 1<<13, complex(0, -(1<<24 + 1<<13))}},
	}
	for _, c := range cases {
		s, code := impl.ScaleSpinor(c.z, c.s)
		wantValue(t, "ScaleSpinor", s, code, c.want)
	}
	for part := range 4 {
		s, code := impl.ScaleSpinor(2, spinorWith(part, greatest, 1))
		wantNone(t, "ScaleSpinor", s, code, impl.ErrLimit)
		s, code = impl.ScaleSpinor(-1, spinorWith(part, greatest, 1))
		wantValue(t, "ScaleSpinor", s, code, spinorWith(part, -greatest, -1))
	}
}

func TestScaleSpinorRefusesWhatIsInvalid(t *testing.T) {
	for _, z := range badComplex() {
		for _, s := range []impl.Spinor{{}, {1, i64}, {greatest, greatest}, {z, 1}} {
			got, code := impl.ScaleSpinor(z, s)
			wantNone(t, "ScaleSpinor", got, code, impl.ErrInvalid)
		}
	}
	for _, s := range badSpinors() {
		for _, z := range []complex64{0, 1, complex(greatest, greatest)} {
			got, code := impl.ScaleSpinor(z, s)
			wantNone(t, "ScaleSpinor", got, code, impl.ErrInvalid)
		}
	}
}

func TestScaleSpinorExactly(t *testing.T) {
	s := &sampler{state: 22}
	for range samples {
		a, r := s.spinors(2), &reckoner{}
		z, v := a[0][0], a[1]
		want := impl.Spinor{r.product(z, v[0]), r.product(z, v[1])}
		got, code := impl.ScaleSpinor(z, v)
		wantReckoned(t, r, "ScaleSpinor", got, code, want)
	}
}

func repeatedSpinor(s impl.Spinor, n int) []impl.Spinor {
	return slices.Repeat([]impl.Spinor{s}, n)
}

func TestSumSpinors(t *testing.T) {
	for _, list := range [][]impl.Spinor{nil, {}, {{minusPair, complex(0, minusZero)}}} {
		sum, code := impl.SumSpinors(list)
		wantValue(t, "SumSpinors", sum, code, impl.Spinor{})
	}
	s := impl.Spinor{complex(1, -2), complex(-3, 4)}
	for n := range 51 {
		sum, code := impl.SumSpinors(repeatedSpinor(s, n))
		m := float32(n)
		wantValue(t, "SumSpinors", sum, code, impl.Spinor{complex(m, -2*m), complex(-3*m, 4*m)})
	}
	for _, n := range []int{51, 52, 100, 101, 1000} {
		for _, s := range []impl.Spinor{{}, s, {greatest, greatest}} {
			sum, code := impl.SumSpinors(repeatedSpinor(s, n))
			wantNone(t, "SumSpinors", sum, code, impl.ErrRange)
		}
	}
}

func TestSumSpinorsRefusesWhatIsNoSpinor(t *testing.T) {
	for _, bad := range badSpinors() {
		for _, n := range []int{1, 2, 50, 51, 120} {
			for _, i := range []int{0, n / 2, n - 1} {
				for _, rest := range []impl.Spinor{{1, i64}, {greatest, greatest}, bad} {
					list := repeatedSpinor(rest, n)
					list[i] = bad
					sum, code := impl.SumSpinors(list)
					wantNone(t, "SumSpinors", sum, code, impl.ErrInvalid)
				}
			}
		}
	}
}

func TestSumSpinorsFromTheLeft(t *testing.T) {
	for part := range 4 {
		big, one := spinorWith(part, 1<<24, 0), spinorWith(part, 1, 0)
		sum, code := impl.SumSpinors([]impl.Spinor{big, one, one, one})
		wantValue(t, "SumSpinors", sum, code, big)
		sum, code = impl.SumSpinors([]impl.Spinor{one, one, big})
		wantValue(t, "SumSpinors", sum, code, spinorWith(part, 1<<24+2, 0))
		most, least := spinorWith(part, greatest, 0), spinorWith(part, -greatest, 0)
		sum, code = impl.SumSpinors([]impl.Spinor{most, most, least, least})
		wantNone(t, "SumSpinors", sum, code, impl.ErrLimit)
		sum, code = impl.SumSpinors([]impl.Spinor{least, most, most, least, least})
		wantValue(t, "SumSpinors", sum, code, least)
	}
}

func TestSumSpinorsExactly(t *testing.T) {
	s := &sampler{state: 23}
	for n := range 51 {
		for range 8 {
			list, r := s.spinors(n + 3)[:n], &reckoner{}
			whole := slices.Clone(list[:cap(list)])
			var want impl.Spinor
			for _, v := range list {
				want = impl.Spinor{r.plus(want[0], v[0]), r.plus(want[1], v[1])}
			}
			sum, code := impl.SumSpinors(list)
			wantReckoned(t, r, "SumSpinors", sum, code, want)
			if !slices.Equal(whole, list[:cap(list)]) {
				t.Errorf("SumSpinors changed its list of %d", n)
			}
		}
	}
}
