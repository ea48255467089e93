package tests

import (
	"math"
	"testing"

	"loop.example/g01214/impl"
)

// tableWith has x as one of its eight parts, and rest as the other ones.
func tableWith(part int, x, rest float32) impl.Turn {
	full := impl.Spinor{complex(rest, rest), complex(rest, rest)}
	if part < 4 {
		return impl.Turn{spinorWith(part, x, rest), full}
	}
	return impl.Turn{full, spinorWith(part-4, x, rest)}
}

// badTables are no tables because of one part, or of all of them. The others would often lead to
// another error.
func badTables() []impl.Turn {
	var list []impl.Turn
	for _, x := range badParts {
		for part := range 8 {
			for _, rest := range []float32{0, 1, greatest, x} {
				list = append(list, tableWith(part, x, rest))
			}
		}
	}
	return list
}

func goodTables() []impl.Turn {
	list := []impl.Turn{{}, unit, tableWith(0, greatest, greatest), tableWith(7, -greatest, -greatest)}
	for part := range 8 {
		for _, x := range []float32{0, minusZero, at(1), -at(1), at(1<<23 - 1), greatest, -greatest} {
			list = append(list, tableWith(part, x, 1), tableWith(part, x, minusZero))
		}
	}
	return list
}

var farPowers = []int64{1001, -1001, 1 << 40, math.MaxInt64, math.MinInt64}

func TestIsTable(t *testing.T) {
	for _, a := range goodTables() {
		if !impl.IsTable(a) {
			t.Errorf("IsTable(%v) is false", a)
		}
	}
	for _, a := range badTables() {
		if impl.IsTable(a) {
			t.Errorf("IsTable(%v) is true", a)
		}
	}
}

func TestFunctionsOfOneRefuseWhatIsNoTable(t *testing.T) {
	for _, bad := range badTables() {
		adjoint, code := impl.AdjointOf(bad)
		wantNone(t, "AdjointOf", adjoint, code, impl.ErrInvalid)
		determinant, code := impl.DeterminantOf(bad)
		wantNone(t, "DeterminantOf", determinant, code, impl.ErrInvalid)
		parts, code := impl.PartsOf(bad)
		wantNone(t, "PartsOf", parts, code, impl.ErrInvalid)
		renewed, code := impl.RenewTurn(bad)
		wantNone(t, "RenewTurn", renewed, code, impl.ErrInvalid)
		drift, code := impl.DriftOfTurn(bad)
		wantNone(t, "DriftOfTurn", drift, code, impl.ErrInvalid)
		for _, k := range append([]int64{0, 1, -1, 2, 1000, -1000}, farPowers...) {
			power, code := impl.PowerOfTurn(bad, k)
			wantNone(t, "PowerOfTurn", power, code, impl.ErrInvalid)
		}
	}
}

func TestFunctionsOfTwoRefuseWhatIsNoTable(t *testing.T) {
	for _, bad := range badTables() {
		for _, other := range []impl.Turn{{}, unit, tableWith(0, greatest, greatest), bad} {
			for _, pair := range [][2]impl.Turn{{bad, other}, {other, bad}} {
				product, code := impl.MultiplyTurns(pair[0], pair[1])
				wantNone(t, "MultiplyTurns", product, code, impl.ErrInvalid)
				commutator, code := impl.CommutatorOfTurns(pair[0], pair[1])
				wantNone(t, "CommutatorOfTurns", commutator, code, impl.ErrInvalid)
				opposite, code := impl.AreOpposite(pair[0], pair[1])
				wantNone(t, "AreOpposite", opposite, code, impl.ErrInvalid)
			}
		}
	}
}

func wantNoImages(t *testing.T, a impl.Turn, s impl.Spinor, v impl.Vector) {
	t.Helper()
	image, code := impl.ApplyTurn(a, s)
	wantNone(t, "ApplyTurn", image, code, impl.ErrInvalid)
	turned, code := impl.TurnVector(a, v)
	wantNone(t, "TurnVector", turned, code, impl.ErrInvalid)
}

func TestImagesRefuseWhatIsNoNumber(t *testing.T) {
	spinors := []impl.Spinor{{}, {1, i64}, {greatest, greatest}}
	vectors := []impl.Vector{{}, {1, 2, 3}, {greatest, greatest, greatest}}
	for _, bad := range badTables() {
		for i, s := range spinors {
			wantNoImages(t, bad, s, vectors[i])
		}
		wantNoImages(t, bad, badSpinors()[0], impl.Vector{badParts[0]})
	}
	var badVectors []impl.Vector
	for _, x := range badParts {
		for i := range 3 {
			badVectors = append(badVectors, vectorWith(i, x, 0), vectorWith(i, x, 1), vectorWith(i, x, greatest), vectorWith(i, x, x))
		}
	}
	for _, a := range []impl.Turn{{}, unit, tableWith(0, greatest, greatest)} {
		for i, s := range badSpinors() {
			wantNoImages(t, a, s, badVectors[i%len(badVectors)])
		}
	}
}

func TestTurnOfPartsRefusesWhatIsNoNumber(t *testing.T) {
	for _, x := range badParts {
		for i := range 4 {
			for _, rest := range []float32{0, 1, greatest, x} {
				p := impl.Parts{rest, rest, rest, rest}
				p[i] = x
				a, code := impl.TurnOfParts(p)
				wantNone(t, "TurnOfParts", a, code, impl.ErrInvalid)
			}
		}
	}
}

func TestTurnOfParts(t *testing.T) {
	tiny := at(1)
	cases := []struct {
		p    impl.Parts
		want impl.Turn
	}{
		{impl.Parts{}, impl.Turn{}},
		{impl.Parts{minusZero, 0, minusZero, 0}, impl.Turn{}},
		{impl.Parts{1, 0, 0, 0}, unit},
		{impl.Parts{0, 1, 0, 0}, impl.Turn{{0, -i64}, {-i64, 0}}},
		{impl.Parts{0, 0, 1, 0}, impl.Turn{{0, -1}, {1, 0}}},
		{impl.Parts{0, 0, 0, 1}, impl.Turn{{-i64, 0}, {0, i64}}},
		{impl.Parts{1, 2, 3, 4}, impl.Turn{{complex(1, -4), complex(-3, -2)}, {complex(3, -2), complex(1, 4)}}},
		{impl.Parts{greatest, -greatest, tiny, -tiny}, impl.Turn{{complex(greatest, tiny), complex(-tiny, greatest)}, {complex(tiny, greatest), complex(greatest, -tiny)}}},
	}
	for _, c := range cases {
		a, code := impl.TurnOfParts(c.p)
		wantValue(t, "TurnOfParts", a, code, c.want)
		p, code := impl.PartsOf(a)
		wantValue(t, "PartsOf", p, code, c.p)
	}
	// Only the first row counts.
	p, code := impl.PartsOf(impl.Turn{{complex(1, 2), complex(3, 4)}, {complex(5, 6), complex(7, 8)}})
	wantValue(t, "PartsOf", p, code, impl.Parts{1, -4, -3, -2})
}

// Tables come back from their parts if they are those of parts.
func TestPartsComeBack(t *testing.T) {
	s := &sampler{state: 34}
	for range samples {
		p := impl.Parts(s.together(4))
		a, code := impl.TurnOfParts(p)
		wantValue(t, "TurnOfParts", a, code, impl.Turn{
			{complex(p[0], -p[3]), complex(-p[2], -p[1])},
			{complex(p[2], -p[1]), complex(p[0], p[3])},
		})
		q, code := impl.PartsOf(a)
		wantValue(t, "PartsOf", q, code, p)
	}
}

func TestHalvedTurn(t *testing.T) {
	half := at(0x3f3504f3)
	cosine, sine := at(0x3f6c835f), at(0x3ec3ef15)
	cases := []struct {
		axis, k int64
		want    impl.Turn
	}{
		{2, 0, impl.Turn{{-i64, 0}, {0, i64}}},
		{0, 0, impl.Turn{{0, -i64}, {-i64, 0}}},
		{1, 0, impl.Turn{{0, -1}, {1, 0}}},
		{0, 1, impl.Turn{{complex(half, 0), complex(0, -half)}, {complex(0, -half), complex(half, 0)}}},
		{1, 1, impl.Turn{{complex(half, 0), complex(-half, 0)}, {complex(half, 0), complex(half, 0)}}},
		{2, 2, impl.Turn{{complex(cosine, -sine), 0}, {0, complex(cosine, sine)}}},
	}
	for _, c := range cases {
		a, code := impl.HalvedTurn(c.axis, c.k)
		wantValue(t, "HalvedTurn", a, code, c.want)
	}
}

func TestHalvedTurnExactly(t *testing.T) {
	if impl.MaxHalvings != 24 {
		t.Errorf("MaxHalvings = %d", impl.MaxHalvings)
	}
	for k := range int64(25) {
		r := &reckoner{}
		c, s := r.halved(k)
		for axis, want := range []impl.Turn{
			{{complex(c, 0), complex(0, -s)}, {complex(0, -s), complex(c, 0)}},
			{{complex(c, 0), complex(-s, 0)}, {complex(s, 0), complex(c, 0)}},
			{{complex(c, -s), 0}, {0, complex(c, s)}},
		} {
			a, code := impl.HalvedTurn(int64(axis), k)
			wantReckoned(t, r, "HalvedTurn", a, code, want)
		}
	}
}

func TestHalvedTurnBeyondTheLimits(t *testing.T) {
	far := []int64{-1, math.MinInt64, math.MaxInt64}
	for _, axis := range append(far, 3) {
		for _, k := range []int64{0, 1, 24, 25, -1} {
			a, code := impl.HalvedTurn(axis, k)
			wantNone(t, "HalvedTurn", a, code, impl.ErrRange)
		}
	}
	for _, k := range append(far, 25) {
		for axis := range int64(3) {
			a, code := impl.HalvedTurn(axis, k)
			wantNone(t, "HalvedTurn", a, code, impl.ErrRange)
		}
	}
}
