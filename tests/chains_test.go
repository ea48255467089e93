package tests

import (
	"math"
	"slices"
	"testing"

	"loop.example/g01214/impl"
)

// chainOf has n spinors s, couplings of 1, and a field along the third axis.
func chainOf(s impl.Spinor, n int) impl.Chain {
	return impl.Chain{Spinors: repeatedSpinor(s, n), Couplings: ones(n - 1), Field: alongZ}
}

// most has no vector.
var most = impl.Spinor{greatest, greatest}

// plainSpinors lead to no error, and to ErrLimit.
var plainSpinors = []impl.Spinor{up, {1, i64}, {}, most}

// chainsOfWrongLengths would be chains with other numbers of spinors or couplings.
func chainsOfWrongLengths() []impl.Chain {
	list := []impl.Chain{{}, {Couplings: ones(1)}, {Field: alongZ}, {Spinors: []impl.Spinor{}, Couplings: []float32{}}, {Couplings: ones(15)}}
	for _, s := range plainSpinors {
		for n := 1; n <= 16; n++ {
			for _, m := range []int{n - 3, n - 2, n, n + 1, 2*n + 1, 100} {
				if m >= 0 {
					list = append(list, impl.Chain{Spinors: repeatedSpinor(s, n), Couplings: ones(m)})
				}
			}
		}
		for _, n := range []int{17, 18, 32, 33, 272, 1000} {
			list = append(list, chainOf(s, n), impl.Chain{Spinors: repeatedSpinor(s, n), Couplings: ones(15)})
		}
	}
	return list
}

// chainsWithBadParts have something in them that is no number.
func chainsWithBadParts() []impl.Chain {
	var list []impl.Chain
	for _, n := range []int{1, 2, 16} {
		for i, bad := range badSpinors() {
			for _, k := range []int{0, n / 2, n - 1} {
				c := chainOf(plainSpinors[i%4], n)
				c.Spinors[k] = bad
				list = append(list, c)
			}
		}
		for i, bad := range badVectors() {
			c := chainOf(plainSpinors[i%4], n)
			c.Field = bad
			list = append(list, c)
		}
		for k := range n - 1 {
			for i, bad := range badParts {
				c := chainOf(plainSpinors[i%4], n)
				c.Couplings[k] = bad
				list = append(list, c)
			}
		}
	}
	return list
}

func badChains() []impl.Chain { return append(chainsOfWrongLengths(), chainsWithBadParts()...) }

func goodChains() []impl.Chain {
	s := &sampler{state: 180}
	list := s.chains(4)
	for n := 1; n <= 16; n++ {
		for _, spinor := range goodSpinors() {
			list = append(list, chainOf(spinor, n))
		}
		for _, x := range []float32{0, minusZero, at(1), -at(1 << 23), greatest, -greatest} {
			c := chainOf(impl.Spinor{complex(x, x), complex(x, -x)}, n)
			c.Field = impl.Vector{x, -x, x}
			for k := range c.Couplings {
				c.Couplings[k] = x
			}
			list = append(list, c)
		}
	}
	return append(list, impl.Chain{Spinors: []impl.Spinor{up}, Couplings: []float32{}})
}

func TestIsChain(t *testing.T) {
	if impl.MaxChain != 16 || impl.MaxSweeps != 20 {
		t.Errorf("MaxChain = %d, MaxSweeps = %d", impl.MaxChain, impl.MaxSweeps)
	}
	for _, c := range goodChains() {
		if !impl.IsChain(c) {
			t.Errorf("IsChain(%v) is false", c)
		}
	}
	for _, c := range badChains() {
		if impl.IsChain(c) {
			t.Errorf("IsChain(%v) is true", c)
		}
	}
}

// refusingChain calls a function of a chain, and expects a code and a zero value.
type refusingChain func(t *testing.T, c impl.Chain, want int64)

func refusesChain[T comparable](name string, run func(impl.Chain) (T, int64)) refusingChain {
	return func(t *testing.T, c impl.Chain, want int64) {
		t.Helper()
		got, code := run(c)
		wantNone(t, name, got, code, want)
	}
}

func refusesChainForList[T any](name string, run func(impl.Chain) ([]T, int64)) refusingChain {
	return func(t *testing.T, c impl.Chain, want int64) {
		t.Helper()
		got, code := run(c)
		wantNoList(t, name, got, code, want)
	}
}

func refusesChainForChain(name string, run func(impl.Chain) (impl.Chain, int64)) refusingChain {
	return func(t *testing.T, c impl.Chain, want int64) {
		t.Helper()
		got, code := run(c)
		wantNoChain(t, name, got, code, want)
	}
}

// functionsAt are those of a chain and the number of a spinor, or a distance.
func functionsAt(k int64) []refusingChain {
	return []refusingChain{
		refusesChain("LocalField", func(c impl.Chain) (impl.Vector, int64) { return impl.LocalField(c, k) }),
		refusesChainForChain("AlignSpinor", func(c impl.Chain) (impl.Chain, int64) { return impl.AlignSpinor(c, k) }),
		refusesChainForChain("FlipSpinor", func(c impl.Chain) (impl.Chain, int64) { return impl.FlipSpinor(c, k) }),
		refusesChain("CorrelationOf", func(c impl.Chain) (float32, int64) { return impl.CorrelationOf(c, k) }),
	}
}

func sweeping(times int64) refusingChain {
	return refusesChainForChain("SweepChain", func(c impl.Chain) (impl.Chain, int64) { return impl.SweepChain(c, times) })
}

// functionsOfChains have other arguments that are right, wrong, and such that lead beyond the
// numbers: ErrInvalid comes ahead of the other codes.
func functionsOfChains() []refusingChain {
	list := []refusingChain{
		refusesChainForList("ChainVectors", impl.ChainVectors),
		refusesChain("ChainEnergy", impl.ChainEnergy),
		refusesChainForList("DomainsOf", impl.DomainsOf),
		refusesChainForChain("ReverseChain", impl.ReverseChain),
	}
	for _, k := range []int64{0, 1, 15, 16, 20, -1, 21, math.MaxInt64, math.MinInt64} {
		list = append(list, functionsAt(k)...)
		list = append(list, sweeping(k))
	}
	for _, a := range []impl.Turn{{}, unit, tableWith(0, greatest, greatest), tableWith(3, badParts[0], 1)} {
		list = append(list, refusesChainForChain("TurnChain", func(c impl.Chain) (impl.Chain, int64) { return impl.TurnChain(a, c) }))
	}
	return list
}

func TestFunctionsRefuseWhatIsNoChain(t *testing.T) {
	bad := badChains()
	for _, refused := range functionsOfChains() {
		for _, c := range bad {
			refused(t, c, impl.ErrInvalid)
		}
	}
}

func TestTurnChainRefusesWhatIsNoTable(t *testing.T) {
	for _, bad := range badTables() {
		for _, s := range plainSpinors {
			for _, n := range []int{1, 2, 16, 17} {
				made, code := impl.TurnChain(bad, chainOf(s, n))
				wantNoChain(t, "TurnChain", made, code, impl.ErrInvalid)
			}
		}
	}
}

// ErrRange comes ahead of ErrLimit.
func TestFunctionsOfChainsRefuseOtherNumbers(t *testing.T) {
	for _, s := range plainSpinors {
		for n := 1; n <= 16; n++ {
			c, m := chainOf(s, n), int64(n)
			for _, k := range []int64{-1, -2, -m, m, m + 1, 2 * m, 16, 1 << 32, 1<<32 + m - 1, -1 << 32, math.MaxInt64, math.MinInt64} {
				for _, refused := range functionsAt(k) {
					refused(t, c, impl.ErrRange)
				}
			}
			for _, times := range []int64{-1, -20, 21, 22, 1 << 32, 1<<32 + 1, -1 << 32, math.MaxInt64, math.MinInt64} {
				sweeping(times)(t, c, impl.ErrRange)
			}
		}
	}
}

// Each number in the range leads to a result, if all that arises is finite.
func TestFunctionsOfChainsTakeAllNumbers(t *testing.T) {
	for n := 1; n <= 16; n++ {
		c := chainOf(up, n)
		for k := range int64(n) {
			field, code := impl.LocalField(c, k)
			neighbours := float32(min(k, 1) + min(int64(n)-1-k, 1))
			wantValue(t, "LocalField", field, code, impl.Vector{0, 0, 1 + neighbours})
			want := copyOf(c)
			want.Spinors[k] = down
			made, code := impl.AlignSpinor(c, k)
			wantChain(t, "AlignSpinor", made, code, want)
			made, code = impl.FlipSpinor(c, k)
			wantChain(t, "FlipSpinor", made, code, want)
			x, code := impl.CorrelationOf(c, k)
			wantValue(t, "CorrelationOf", x, code, 1)
		}
	}
}

// overwriteChain spoils a chain and the spare capacity behind its lists.
func overwriteChain(c impl.Chain) {
	overwrite(c.Spinors)
	overwriteNumbers(c.Couplings)
}

func overwriteNumbers(list []float32) {
	list = list[:cap(list)]
	for i := range list {
		list[i] = 77
	}
}

// changesOfChains make chains of chains.
func changesOfChains() []func(impl.Chain) (impl.Chain, int64) {
	list := []func(impl.Chain) (impl.Chain, int64){
		impl.ReverseChain,
		func(c impl.Chain) (impl.Chain, int64) { return impl.TurnChain(unit, c) },
	}
	for _, k := range []int64{0, 1, 2, 15} {
		list = append(list,
			func(c impl.Chain) (impl.Chain, int64) { return impl.AlignSpinor(c, k) },
			func(c impl.Chain) (impl.Chain, int64) { return impl.FlipSpinor(c, k) },
			func(c impl.Chain) (impl.Chain, int64) { return impl.SweepChain(c, k) })
	}
	return list
}

// useChain gives a chain to all functions, and spoils what they return.
func useChain(c impl.Chain) {
	vectors, _ := impl.ChainVectors(c)
	vectors = vectors[:cap(vectors)]
	for i := range vectors {
		vectors[i] = impl.Vector{77, 77, 77}
	}
	impl.DomainsOf(c)
	impl.ChainEnergy(c)
	impl.CompensatedSum(c.Couplings)
	for k := range int64(16) {
		impl.LocalField(c, k)
		impl.CorrelationOf(c, k)
	}
	for _, change := range changesOfChains() {
		made, _ := change(c)
		overwriteChain(made)
	}
}

// part cuts a chain out of a longer one, so that there is something on both sides of its lists.
func part(c impl.Chain, from, to int) impl.Chain {
	return impl.Chain{Spinors: c.Spinors[from:to], Couplings: c.Couplings[from : to-1], Field: c.Field}
}

func TestChainsStayAsTheyAre(t *testing.T) {
	s := &sampler{state: 181}
	for i := range 60 {
		c := s.chain(16)
		if i%2 == 0 {
			c = chainOf(up, 16)
		}
		whole := copyOf(c)
		for _, cut := range []impl.Chain{part(c, 0, 1), part(c, 0, 8), part(c, 3, 9), part(c, 14, 15), part(c, 15, 16), part(c, 1, 16), c} {
			useChain(cut)
			if !sameChain(whole, c) {
				t.Fatalf("%v became %v", whole, c)
			}
		}
	}
}

// A chain that is made does not change with the one that it was made from, even where a spinor
// stays, or no sweep is made.
func TestChainsThatAreMadeAreNew(t *testing.T) {
	for n := 1; n <= 16; n++ {
		for _, field := range []impl.Vector{{}, alongZ, {0, 0, -1}} {
			for _, change := range changesOfChains() {
				c := chainOf(up, n)
				c.Field = field
				made, _ := change(c)
				before := copyOf(made)
				overwriteChain(c)
				if !sameChain(before, made) {
					t.Fatalf("%v became %v", before, made)
				}
				if cap(made.Spinors) > 0 && slices.Contains(made.Spinors[:cap(made.Spinors)], impl.Spinor{77, 77i}) {
					t.Fatalf("the spare capacity of %v is shared", made)
				}
			}
		}
	}
}
