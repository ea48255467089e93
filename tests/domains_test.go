package tests

import (
	"slices"
	"testing"

	"loop.example/g01214/impl"
)

// coupledBy0 has couplings of 0, and no field.
func coupledBy0(list ...impl.Spinor) impl.Chain {
	return impl.Chain{Spinors: list, Couplings: make([]float32, len(list)-1)}
}

func TestDomainsOf(t *testing.T) {
	minus := impl.Spinor{1, -1}
	low, lowDown := impl.Spinor{two(-37), 0}, impl.Spinor{0, two(-37)}
	lower, lowerDown := impl.Spinor{two(-38), 0}, impl.Spinor{0, i64 * two(-38)}
	cases := []struct {
		c    impl.Chain
		want []int64
	}{
		{upDown, []int64{1, 1}},
		{three, []int64{1, 2}},
		{ofZeros, []int64{1}},
		{coupledBy0(up), []int64{1}},
		{coupledBy0(down), []int64{1}},
		{coupledBy0(up, up), []int64{2}},
		{coupledBy0(up, up, down, down, up), []int64{2, 2, 1}},
		{coupledBy0(up, down, down, down, down), []int64{1, 4}},
		{coupledBy0(down, down, down, up), []int64{3, 1}},
		{coupledBy0(plus, minus, minus, plus, plus), []int64{1, 2, 2}},
		{coupledBy0(impl.Spinor{1, i64}, impl.Spinor{1, -i64}), []int64{1, 1}},
		{coupledBy0(impl.Spinor{1, i64}, impl.Spinor{1, complex(0.1, 0.1)}), []int64{2}},
		// Only neighbours matter, not the first one of a domain.
		{coupledBy0(up, impl.Spinor{2, 1}, plus, impl.Spinor{1, 2}, down), []int64{5}},
		// Dots of 0, with zeros of both signs on the way.
		{coupledBy0(up, plus), []int64{2}},
		{coupledBy0(up, minus), []int64{2}},
		{coupledBy0(minus, down), []int64{2}},
		{coupledBy0(down, minus), []int64{2}},
		{coupledBy0(plus, impl.Spinor{1, i64}, minus, impl.Spinor{1, -i64}, down), []int64{5}},
		{coupledBy0(up, impl.Spinor{}, down), []int64{3}},
		{coupledBy0(up, impl.Spinor{minusPair, minusPair}, down, up), []int64{3, 1}},
		// Dots that are less than 0, but rounded to 0 or not.
		{coupledBy0(low, lowDown), []int64{1, 1}},
		{coupledBy0(lower, lowerDown), []int64{2}},
		{coupledBy0(lower, lowDown), []int64{2}},
		{coupledBy0(lower, down), []int64{1, 1}},
		{coupledBy0(impl.Spinor{two(-75), two(-75)}, large), []int64{2}},
		{coupledBy0(impl.Spinor{two(-74), 0}, largeDown), []int64{1, 1}},
		// Dots of several products, and great ones.
		{coupledBy0(impl.Spinor{1, complex(1, 1)}, impl.Spinor{2, 0}), []int64{1, 1}},
		{coupledBy0(impl.Spinor{1, complex(1, 1)}, impl.Spinor{complex(1, 1), 1}), []int64{1, 1}},
		{coupledBy0(impl.Spinor{1, complex(1, 1)}, impl.Spinor{complex(1, 1), complex(1, 1)}), []int64{2}},
		{coupledBy0(lesser, large, lesser), []int64{3}},
		{coupledBy0(lesser, largeDown, lesser), []int64{1, 1, 1}},
		// Neither couplings nor the field matter.
		{impl.Chain{Spinors: []impl.Spinor{up, up, down}, Couplings: []float32{-greatest, greatest}, Field: endless}, []int64{2, 1}},
	}
	for _, c := range cases {
		domains, code := impl.DomainsOf(c.c)
		wantList(t, "DomainsOf", domains, code, c.want)
	}
}

// All lengths of chains, and all places where the directions change.
func TestDomainsOfAllLengths(t *testing.T) {
	for n := 1; n <= 16; n++ {
		domains, code := impl.DomainsOf(chainOf(up, n))
		wantList(t, "DomainsOf", domains, code, []int64{int64(n)})
		for first := 1; first < n; first++ {
			c := coupledBy0(slices.Concat(repeatedSpinor(up, first), repeatedSpinor(down, n-first))...)
			domains, code := impl.DomainsOf(c)
			wantList(t, "DomainsOf", domains, code, []int64{int64(first), int64(n - first)})
		}
		c := coupledBy0(slices.Repeat([]impl.Spinor{up, down}, 8)[:n]...)
		domains, code = impl.DomainsOf(c)
		wantList(t, "DomainsOf", domains, code, slices.Repeat([]int64{1}, n))
	}
}

// The products of the numbers of the vector of wide and themselves are finite, but their sum is not.
var wide = impl.Spinor{two(31), complex(1.5*power(31), 1.5*power(31))}

func TestDomainsOfAtTheLimit(t *testing.T) {
	list := []impl.Chain{
		coupledBy0(large, large), coupledBy0(large, largeDown), coupledBy0(up, down, largeDown, large, up), coupledBy0(wide, wide),
	}
	for n := 1; n <= 16; n++ {
		list = append(list, spoiltChains(n)...)
	}
	for _, c := range list {
		domains, code := impl.DomainsOf(c)
		wantNoList(t, "DomainsOf", domains, code, impl.ErrLimit)
	}
}

func TestDomainsOfExactly(t *testing.T) {
	s := &sampler{state: 191}
	codes := map[int64]int{}
	for _, c := range s.chains(30) {
		r := &reckoner{}
		want, wantCode := r.domains(c)
		if r.failed {
			wantCode = impl.ErrLimit
		}
		domains, code := impl.DomainsOf(c)
		wantListOutcome(t, "DomainsOf", domains, code, want, wantCode)
		codes[code]++
	}
	if codes[impl.ErrNone] < 250 || codes[impl.ErrLimit] < 40 {
		t.Errorf("DomainsOf gave the codes %v", codes)
	}
}

// Promise 10: domains add up to the number of spinors, and each has one at least.
func TestDomainsAddUp(t *testing.T) {
	s := &sampler{state: 192}
	found := 0
	for _, c := range s.chains(200) {
		domains, code := impl.DomainsOf(c)
		if code != impl.ErrNone {
			continue
		}
		sum := int64(0)
		for _, n := range domains {
			if sum += n; n < 1 {
				t.Errorf("DomainsOf(%v) = %v", c, domains)
			}
		}
		if sum != int64(len(c.Spinors)) {
			t.Errorf("DomainsOf(%v) = %v, but there are %d spinors", c, domains, len(c.Spinors))
		}
		if len(domains) > 1 {
			found++
		}
	}
	if found < 1000 {
		t.Errorf("only %d chains have more than one domain", found)
	}
}

// Promise 10, with domains that are found without the program.
func TestKnownDomainsAddUp(t *testing.T) {
	domains, code := impl.DomainsOf(coupledBy0(slices.Repeat([]impl.Spinor{up, plus, down, down}, 4)...))
	wantList(t, "DomainsOf", domains, code, []int64{4, 4, 4, 4})
}
