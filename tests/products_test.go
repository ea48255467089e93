package tests

import (
	"math"
	"testing"

	"loop.example/g01214/impl"
)

func column(z, w complex64) impl.Turn { return impl.Turn{{z, 0}, {w, 0}} }

func TestMultiplyTurns(t *testing.T) {
	low := complex(power(-75), 0)
	cases := [][3]impl.Turn{
		{{{1, 2}, {3, 4}}, {{5, 6}, {7, 8}}, {{19, 22}, {43, 50}}},
		{{{i64, 1}, {2, -i64}}, {{1, i64}, {complex(1, 1), 3}}, {{complex(1, 2), 2}, {complex(3, -1), -i64}}},
		{{{0, -i64}, {-i64, 0}}, {{0, -1}, {1, 0}}, {{-i64, 0}, {0, i64}}},
		{{{0, -1}, {1, 0}}, {{0, -i64}, {-i64, 0}}, {{i64, 0}, {0, -i64}}},
		{{}, tableWith(0, greatest, greatest), {}},
		{tableWith(3, minusZero, minusZero), tableWith(0, greatest, -greatest), {}},
		// 4097 times 4097 is rounded to 4096 times 4098 before the two are added.
		{{{4097, 4096}, {4096, 4097}}, column(4097, -4098), column(0, 4096*4097-4097*4098)},
		// Both products are rounded to 0, although their sum would not be.
		{{{low, low}, {1, 0}}, column(low, low), column(0, low)},
		{{{complex(at(1), 0), 1}, {i64, complex(0, at(1))}}, {{complex(0, at(3)), 1}, {complex(at(2), -at(1)), 0.5}}, {{complex(at(2), -at(1)), complex(0.5, 0)}, {complex(-at(3), 0), i64}}},
	}
	for _, c := range cases {
		a, code := impl.MultiplyTurns(c[0], c[1])
		wantValue(t, "MultiplyTurns", a, code, c[2])
	}
}

// inColumn returns a table that has two entries in a column, so that only this column of a product
// with it can have what is no number.
func inColumn(j int, z, w complex64) impl.Turn {
	var b impl.Turn
	b[0][j], b[1][j] = z, w
	return b
}

func TestMultiplyTurnsAtTheLimit(t *testing.T) {
	big, most := complex(power(64), 0), complex64(greatest)
	rows := [][2]impl.Spinor{
		{{big, 0}, {big, 0}}, {{0, big}, {0, -big}}, {{big, 0}, {i64 * big, 0}}, {{0, big}, {0, i64 * big}},
		{{big, big}, {big, -big}}, {{big, big}, {i64 * big, -i64 * big}},
		{{most, most}, {1, 1}}, {{1, i64}, {-most, i64 * most}}, {{most, most}, {i64, i64}},
		{{most, 1}, {1, complex(power(103), 0)}},
	}
	for i := range 2 {
		for j := range 2 {
			for _, c := range rows {
				var a impl.Turn
				a[i] = c[0]
				b := inColumn(j, c[1][0], c[1][1])
				product, code := impl.MultiplyTurns(a, b)
				wantNone(t, "MultiplyTurns", product, code, impl.ErrLimit)
				commutator, code := impl.CommutatorOfTurns(a, b)
				wantNone(t, "CommutatorOfTurns", commutator, code, impl.ErrLimit)
			}
		}
	}
	product, code := impl.MultiplyTurns(impl.Turn{{most, 1}, {0, 0}}, column(1, complex(power(102), 0)))
	wantValue(t, "MultiplyTurns", product, code, column(most, 0))
}

func TestMultiplyTurnsExactly(t *testing.T) {
	s := &sampler{state: 35}
	for range samples / 2 {
		a, r := s.anyTables(2), &reckoner{}
		want := r.turns(a[0], a[1])
		product, code := impl.MultiplyTurns(a[0], a[1])
		wantReckoned(t, r, "MultiplyTurns", product, code, want)
	}
}

// Promise 12, for chapter 3: products with the unit, and images under it, change nothing.
func TestTheUnitChangesNothing(t *testing.T) {
	s := &sampler{state: 36}
	list := append(s.tables(20), goodTables()...)
	for range samples / 10 {
		list = append(list, s.anyTables(10)...)
	}
	for _, a := range list {
		product, code := impl.MultiplyTurns(unit, a)
		wantValue(t, "MultiplyTurns", product, code, a)
		product, code = impl.MultiplyTurns(a, unit)
		wantValue(t, "MultiplyTurns", product, code, a)
		image, code := impl.ApplyTurn(unit, a[0])
		wantValue(t, "ApplyTurn", image, code, impl.Spinor(a[0]))
		v := impl.Vector{real(a[0][0]), imag(a[0][1]), real(a[1][0])}
		turned, code := impl.TurnVector(unit, v)
		wantValue(t, "TurnVector", turned, code, v)
	}
}

// Promise 3: the adjoint of a product is the product of the adjoints in the other order.
func TestAdjointsOfProducts(t *testing.T) {
	s := &sampler{state: 37}
	found := 0
	for range samples {
		a := s.anyTables(2)
		product, code := impl.MultiplyTurns(a[0], a[1])
		adjoint, codeAdjoint := impl.AdjointOf(product)
		first, codeFirst := impl.AdjointOf(a[0])
		second, codeSecond := impl.AdjointOf(a[1])
		turned, codeTurned := impl.MultiplyTurns(second, first)
		if turned != adjoint || codeTurned != code || codeAdjoint != impl.ErrNone || codeFirst != impl.ErrNone || codeSecond != impl.ErrNone {
			t.Errorf("of %v: %v, %d and %v, %d", a, adjoint, code, turned, codeTurned)
		}
		if code == impl.ErrNone && product != (impl.Turn{}) && product != adjoint {
			found++
		}
	}
	if found < samples/3 {
		t.Errorf("only %d of %d products say something", found, samples)
	}
}

// Promise 3, with products that are found without the program.
func TestAdjointsOfKnownProducts(t *testing.T) {
	a := impl.Turn{{i64, 1}, {2, -i64}}
	b := impl.Turn{{1, i64}, {complex(1, 1), 3}}
	want := impl.Turn{{complex(1, -2), complex(3, 1)}, {2, i64}}
	product, code := impl.MultiplyTurns(a, b)
	wantValue(t, "MultiplyTurns", product, code, daggered(want))
	adjoint, code := impl.AdjointOf(product)
	wantValue(t, "AdjointOf", adjoint, code, want)
	product, code = impl.MultiplyTurns(daggered(b), daggered(a))
	wantValue(t, "MultiplyTurns", product, code, want)
}

func TestAdjointOf(t *testing.T) {
	cases := [][2]impl.Turn{
		{{}, {}},
		{unit, unit},
		{{{complex(1, 2), complex(3, 4)}, {complex(5, 6), complex(7, 8)}}, {{complex(1, -2), complex(5, -6)}, {complex(3, -4), complex(7, -8)}}},
		{{{0, -1}, {1, 0}}, {{0, 1}, {-1, 0}}},
		{{{complex(minusZero, minusZero), complex(at(1), greatest)}, {0, complex(-greatest, -at(1))}}, {{0, 0}, {complex(at(1), -greatest), complex(-greatest, at(1))}}},
	}
	for _, c := range cases {
		a, code := impl.AdjointOf(c[0])
		wantValue(t, "AdjointOf", a, code, c[1])
	}
	s := &sampler{state: 38}
	for _, a := range append(s.tables(100), goodTables()...) {
		adjoint, code := impl.AdjointOf(a)
		wantValue(t, "AdjointOf", adjoint, code, daggered(a))
		twice, code := impl.AdjointOf(adjoint)
		wantValue(t, "AdjointOf", twice, code, a)
	}
}

func TestDeterminantOf(t *testing.T) {
	low, most := complex(power(-75), 0), complex64(greatest)
	cases := []struct {
		a    impl.Turn
		want complex64
	}{
		{impl.Turn{}, 0},
		{unit, 1},
		{impl.Turn{{1, 2}, {3, 4}}, -2},
		{impl.Turn{{0, 1}, {1, 0}}, -1},
		{impl.Turn{{i64, 2}, {complex(1, 1), 3}}, complex(-2, 1)},
		{impl.Turn{{complex(1, 2), i64}, {-i64, complex(3, -1)}}, complex(4, 5)},
		{impl.Turn{{minusPair, 5}, {minusPair, 7}}, 0},
		{impl.Turn{{4097, 4096}, {4098, 4097}}, 0},
		{impl.Turn{{low, -low}, {low, low}}, 0},
		{impl.Turn{{low, -1}, {complex(at(1), at(2)), low}}, complex(at(1), at(2))},
		{impl.Turn{{most, complex(-power(102), 0)}, {1, 1}}, most},
	}
	for _, c := range cases {
		z, code := impl.DeterminantOf(c.a)
		wantValue(t, "DeterminantOf", z, code, c.want)
	}
	big := complex(power(64), 0)
	for _, a := range []impl.Turn{
		{{big, 0}, {0, big}}, {{0, big}, {big, 0}}, {{big, big}, {big, big}}, {{big, 0}, {0, i64 * big}}, {{0, i64 * big}, {big, 0}},
		{{most, -most}, {1, 1}}, {{i64, i64}, {-most, most}}, {{most, complex(-power(103), 0)}, {1, 1}},
	} {
		z, code := impl.DeterminantOf(a)
		wantNone(t, "DeterminantOf", z, code, impl.ErrLimit)
	}
}

func TestDeterminantOfExactly(t *testing.T) {
	s := &sampler{state: 39}
	for range samples {
		a, r := s.anyTables(1)[0], &reckoner{}
		want := r.determinant(a)
		z, code := impl.DeterminantOf(a)
		wantReckoned(t, r, "DeterminantOf", z, code, want)
	}
}

func TestCommutatorOfTurns(t *testing.T) {
	x, y := impl.Turn{{0, -i64}, {-i64, 0}}, impl.Turn{{0, -1}, {1, 0}}
	two, big := impl.Turn{{2, 0}, {0, 1}}, impl.Turn{{complex(power(63), 0), 0}, {0, 1}}
	cases := [][3]impl.Turn{
		{unit, unit, unit},
		{x, y, negative(unit)},
		{x, x, unit},
		{{{1, 1}, {0, 1}}, {{1, 0}, {1, 1}}, {{3, 4}, {2, 3}}},
		{{{1, i64}, {0, 1}}, {{1, 2}, {0, i64}}, {{complex(3, -1), -i64}, {complex(1, 2), 1}}},
		{big, unit, {{complex(power(126), 0), 0}, {0, 1}}},
	}
	for _, c := range cases {
		a, code := impl.CommutatorOfTurns(c[0], c[1])
		wantValue(t, "CommutatorOfTurns", a, code, c[2])
	}
	// The fourth table, or the third one, leads beyond the numbers.
	for _, pair := range [][2]impl.Turn{{big, two}, {two, big}, {impl.Turn{{complex(power(64), 0), 0}, {0, 1}}, unit}} {
		a, code := impl.CommutatorOfTurns(pair[0], pair[1])
		wantNone(t, "CommutatorOfTurns", a, code, impl.ErrLimit)
	}
}

func TestCommutatorOfTurnsExactly(t *testing.T) {
	s := &sampler{state: 40}
	for range samples / 6 {
		a, r := s.anyTables(2), &reckoner{}
		want := r.turns(r.turns(r.turns(a[0], a[1]), daggered(a[0])), daggered(a[1]))
		commutator, code := impl.CommutatorOfTurns(a[0], a[1])
		wantReckoned(t, r, "CommutatorOfTurns", commutator, code, want)
	}
}

func TestAreOpposite(t *testing.T) {
	s := &sampler{state: 41}
	for _, a := range append(s.tables(200), goodTables()...) {
		yes, code := impl.AreOpposite(a, negative(a))
		wantValue(t, "AreOpposite", yes, code, true)
		yes, code = impl.AreOpposite(a, a)
		wantValue(t, "AreOpposite", yes, code, a == impl.Turn{})
	}
	for part := range 8 {
		for _, x := range []float32{at(1), 1, greatest} {
			a := tableWith(part, x, 2)
			yes, code := impl.AreOpposite(a, tableWith(part, -x, -2))
			wantValue(t, "AreOpposite", yes, code, true)
			for _, y := range []float32{x, -math.Nextafter32(x, 0), 1.5} {
				yes, code := impl.AreOpposite(a, tableWith(part, y, -2))
				wantValue(t, "AreOpposite", yes, code, false)
			}
		}
	}
	yes, code := impl.AreOpposite(tableWith(0, minusZero, 0), tableWith(5, minusZero, 0))
	wantValue(t, "AreOpposite", yes, code, true)
	yes, code = impl.AreOpposite(impl.Turn{{1, 2}, {3, 4}}, impl.Turn{{-1, -3}, {-2, -4}})
	wantValue(t, "AreOpposite", yes, code, false)
}
