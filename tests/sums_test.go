package tests

import (
	"slices"
	"testing"

	"loop.example/g01214/impl"
)

type summing struct {
	name string
	run  func([]complex64) (complex64, int64)
}

func summings() []summing {
	return []summing{{"SumOf", impl.SumOf}, {"SumByHalves", impl.SumByHalves}}
}

func repeated(z complex64, n int) []complex64 { return slices.Repeat([]complex64{z}, n) }

func TestSumsOfFew(t *testing.T) {
	for _, s := range summings() {
		for _, list := range [][]complex64{nil, {}} {
			z, code := s.run(list)
			wantComplex(t, s.name, z, code, 0)
		}
		z, code := s.run([]complex64{complex(greatest, -power(-149))})
		wantComplex(t, s.name, z, code, complex(greatest, -power(-149)))
		z, code = s.run([]complex64{complex(1, 2), complex(3, -1)})
		wantComplex(t, s.name, z, code, complex(4, 1))
	}
}

func TestSumsOfMany(t *testing.T) {
	for _, s := range summings() {
		z, code := s.run(repeated(complex(1, -2), impl.MaxTerms))
		wantComplex(t, s.name, z, code, complex(100, -200))
		z, code = s.run(repeated(complex(1, -2), impl.MaxTerms+1))
		wantNoComplex(t, s.name, z, code, impl.ErrRange)
		z, code = s.run(repeated(greatest, impl.MaxTerms+1))
		wantNoComplex(t, s.name, z, code, impl.ErrRange)
	}
}

func TestSumsRefuseWhatIsNotComplex(t *testing.T) {
	for _, s := range summings() {
		for _, bad := range badComplex() {
			for _, n := range []int{1, 2, 3, impl.MaxTerms, impl.MaxTerms + 1, 2 * impl.MaxTerms} {
				for _, i := range []int{0, n / 2, n - 1} {
					// The others would overflow, but ErrLimit comes last.
					list := repeated(greatest, n)
					list[i] = bad
					z, code := s.run(list)
					wantNoComplex(t, s.name, z, code, impl.ErrInvalid)
				}
			}
		}
	}
}

func TestOrderOfSums(t *testing.T) {
	huge := complex64(greatest)
	cases := []struct {
		list                 []complex64
		left, halves         complex64
		leftCode, halvesCode int64
	}{
		{list: []complex64{1 << 24, 1, 1}, left: 1 << 24, halves: 1<<24 + 2},
		{list: []complex64{1, 1, 1 << 24}, left: 1<<24 + 2, halves: 1 << 24},
		{list: []complex64{1 << 24, 1, 1, 1}, left: 1 << 24, halves: 1<<24 + 2},
		{list: []complex64{huge, huge, -huge}, leftCode: impl.ErrLimit, halves: huge},
		{list: []complex64{-huge, huge, huge}, left: huge, halvesCode: impl.ErrLimit},
		{list: []complex64{huge, huge, -huge, -huge}, leftCode: impl.ErrLimit, halvesCode: impl.ErrLimit},
		{list: []complex64{huge, -huge, -huge, -huge}, leftCode: impl.ErrLimit, halvesCode: impl.ErrLimit},
		{list: []complex64{huge, -huge, huge, -huge}},
	}
	for _, c := range cases {
		if z, code := impl.SumOf(c.list); z != c.left || code != c.leftCode {
			t.Errorf("SumOf(%v) = %v, %d", c.list, z, code)
		}
		if z, code := impl.SumByHalves(c.list); z != c.halves || code != c.halvesCode {
			t.Errorf("SumByHalves(%v) = %v, %d", c.list, z, code)
		}
	}
}

func sumFromLeft(list []complex64) (complex64, bool) {
	sum, ok := complex64(0), true
	for _, z := range list {
		if sum, ok = addExact(sum, z); !ok {
			return 0, false
		}
	}
	return sum, true
}

func sumOfHalves(list []complex64) (complex64, bool) {
	n := len(list)
	if n < 2 {
		return sumFromLeft(list)
	}
	first, okFirst := sumOfHalves(list[:n/2])
	others, okOthers := sumOfHalves(list[n/2:])
	if !okFirst || !okOthers {
		return 0, false
	}
	return addExact(first, others)
}

func addExact(z, w complex64) (complex64, bool) {
	re, okRe := roundExact(exactSum(exactOf(real(z)), exactOf(real(w))))
	im, okIm := roundExact(exactSum(exactOf(imag(z)), exactOf(imag(w))))
	return complex(at(re), at(im)), okRe && okIm
}

func TestSumsExactly(t *testing.T) {
	s := &sampler{state: 9}
	for n := 0; n <= impl.MaxTerms; n++ {
		list := make([]complex64, n)
		for i := range list {
			list[i] = s.complex()
			// Mostly small ones, so that not all sums overflow.
			if n%4 != 0 {
				list[i] = complex(real(list[i])*power(-64), imag(list[i])*power(-64))
			}
		}
		before := slices.Clone(list)
		for _, c := range []struct {
			summing
			want func([]complex64) (complex64, bool)
		}{{summings()[0], sumFromLeft}, {summings()[1], sumOfHalves}} {
			want, ok := c.want(list)
			z, code := c.run(list)
			if ok {
				wantComplex(t, c.name, z, code, want)
			} else {
				wantNoComplex(t, c.name, z, code, impl.ErrLimit)
			}
		}
		if !slices.Equal(list, before) {
			t.Errorf("a sum changed its list of %d", n)
		}
	}
}
