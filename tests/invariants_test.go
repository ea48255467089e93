package tests

import (
	"slices"
	"testing"

	"loop.example/g01214/impl"
)

// line is the polygon of the spinors (z, 0), whose inner products are products of two of these
// numbers.
func line(numbers ...complex64) []impl.Spinor {
	var list []impl.Spinor
	for _, z := range numbers {
		list = append(list, impl.Spinor{z, 0})
	}
	return list
}

// two is the complex number 2^exponent.
func two(exponent int) complex64 { return complex(power(exponent), 0) }

func backwards(list []impl.Spinor) []impl.Spinor {
	turned := slices.Clone(list)
	slices.Reverse(turned)
	return turned
}

func TestInvariantOf(t *testing.T) {
	side, front := impl.Spinor{1, i64}, impl.Spinor{1, 1}
	cases := []struct {
		list []impl.Spinor
		want complex64
	}{
		{[]impl.Spinor{up}, 1},
		{[]impl.Spinor{side}, 2},
		{[]impl.Spinor{{complex(1, 2), complex(3, -4)}}, 30},
		{[]impl.Spinor{up, side}, 1},
		{[]impl.Spinor{side, front}, 2},
		{[]impl.Spinor{{2, 0}, {0, 3}}, 0},
		{[]impl.Spinor{up, front, side}, complex(1, 1)},
		{[]impl.Spinor{side, front, up}, complex(1, -1)},
		{[]impl.Spinor{front, side, up}, complex(1, 1)},
		{[]impl.Spinor{up, down, side}, 0},
		// With four corners, one inner product is that of the last and the first one.
		{[]impl.Spinor{up, front, side, {1, -1}}, complex(0, 2)},
		{[]impl.Spinor{up, {1, -1}, side, front}, complex(0, -2)},
		{line(1, i64, -1, -i64), 1},
		{line(1, 2, i64, 4), 64},
		{line(complex(1, 1), complex(2, -1)), 10},
		{[]impl.Spinor{{}, {minusPair, minusPair}}, 0},
		{[]impl.Spinor{{}}, 0},
		{[]impl.Spinor{{complex(minusZero, 1), minusPair}}, 1},
		// The product is made from the left: the first two inner products give 0.
		{line(1, two(-75), 1, two(80)), 0},
		{line(two(80), 1, two(-75), 1), two(10)},
		// Inner products are rounded before they are multiplied.
		{[]impl.Spinor{{4097, 4096}, {4097, -4098}}, 0},
		{line(two(-75), two(-75), two(75)), 0},
		{line(two(-75), 1), 0},
		{line(two(-74), 1), two(-148)},
		{line(complex(at(1), -at(3)), 1, two(75)), complex(at(20), 0)},
		{line(complex(at(1), -at(3)), 1, two(76)), complex(at(80), 0)},
		{line(complex(at(1<<23-1), 0), 1, two(50)), 0},
		{line(1, 4097), 4096 * 4098},
		{line(two(31), two(32)), two(126)},
	}
	for _, c := range cases {
		z, code := impl.InvariantOf(c.list)
		wantValue(t, "InvariantOf", z, code, c.want)
	}
}

func TestInvariantOfAtTheLimit(t *testing.T) {
	for _, list := range [][]impl.Spinor{
		{{greatest, greatest}}, line(two(64)), line(-i64 * two(64)), {{two(63), two(63)}, {two(64), two(64)}},
		{{0, two(64)}, {0, i64 * two(64)}}, line(1, two(64), 1), line(two(64), two(64), two(-75)),
		// An inner product is not finite, even beside one that is 0.
		{down, line(two(64))[0], line(two(64))[0]}, {line(two(64))[0], line(two(64))[0], down},
		// The products are not finite, though the inner products are, and though the next would be.
		line(1, two(64)), line(two(64), 1, two(64), two(-75)), line(1, two(65), 1, two(-75)),
	} {
		z, code := impl.InvariantOf(list)
		wantNone(t, "InvariantOf", z, code, impl.ErrLimit)
	}
	z, code := impl.InvariantOf(line(two(-75), 1, two(65), 1))
	wantValue(t, "InvariantOf", z, code, two(-20))
}

func TestInvariantsExactly(t *testing.T) {
	s := &sampler{state: 141}
	found, count := 0, 0
	for n := 1; n <= 24; n++ {
		for range 20 + 1200/(n*n) {
			list, r := s.polygon(n), &reckoner{}
			want := r.invariant(list)
			z, code := impl.InvariantOf(list)
			wantReckoned(t, r, "InvariantOf", z, code, want)
			wantPhase, wantCode := new(reckoner).phaseOfLoop(list)
			phase, code := impl.PhaseOfLoop(list)
			wantOutcome(t, "PhaseOfLoop", phase, code, wantPhase, wantCode)
			count++
			if code == impl.ErrNone {
				found++
			}
		}
	}
	if found < count/3 {
		t.Errorf("only %d of %d phases say something", found, count)
	}
}

// Promise 8: invariants read backwards are conjugates, for polygons of up to three corners.
func TestInvariantsReadBackwards(t *testing.T) {
	s := &sampler{state: 142}
	found := 0
	for range samples {
		list := s.polygon(1 + int(s.next(3)))
		z, code := impl.InvariantOf(list)
		turned, codeTurned := impl.InvariantOf(backwards(list))
		if turned != mirrored(z) || codeTurned != code {
			t.Errorf("of %v: %v, %d and %v, %d", list, z, code, turned, codeTurned)
		}
		if code == impl.ErrNone && imag(z) != 0 {
			found++
		}
	}
	if found < samples/8 {
		t.Errorf("only %d of %d invariants say something", found, samples)
	}
}

// Promise 8, for polygons of all lengths with which nothing is rounded: no inner product of these
// spinors is 0.
func TestWholeInvariantsReadBackwards(t *testing.T) {
	s := &sampler{state: 143}
	found := 0
	for range samples {
		list := make([]impl.Spinor, 1+s.next(24))
		for i := range list {
			list[i] = []impl.Spinor{{1, 0}, {1, 1}, {1, i64}, {i64, 1}}[s.next(3)]
		}
		z, code := impl.InvariantOf(list)
		turned, codeTurned := impl.InvariantOf(backwards(list))
		wantValue(t, "InvariantOf backwards", turned, codeTurned, mirrored(z))
		if code != impl.ErrNone || z == 0 {
			t.Errorf("InvariantOf(%v) = %v, %d", list, z, code)
		}
		if imag(z) != 0 {
			found++
		}
	}
	if found < samples/4 {
		t.Errorf("only %d of %d invariants say something", found, samples)
	}
}

// Promise 8, with invariants that are found without the program.
func TestKnownInvariantsReadBackwards(t *testing.T) {
	list := []impl.Spinor{{complex(1, 2), 1}, {1, i64}, {3, complex(0, -1)}}
	z, code := impl.InvariantOf(list)
	wantValue(t, "InvariantOf", z, code, complex(20, 8))
	z, code = impl.InvariantOf(backwards(list))
	wantValue(t, "InvariantOf", z, code, complex(20, -8))
}

// The guarantee of chapter 8: invariants of polygons of one and two corners are real.
func TestInvariantsOfOneAndTwoCornersAreReal(t *testing.T) {
	s := &sampler{state: 144}
	found := 0
	for range samples {
		list := s.polygon(1 + int(s.next(2)))
		z, code := impl.InvariantOf(list)
		if imag(z) != 0 || real(z) < 0 {
			t.Errorf("InvariantOf(%v) = %v, %d", list, z, code)
		}
		if code == impl.ErrNone && z != 0 {
			found++
		}
	}
	if found < samples/3 {
		t.Errorf("only %d of %d invariants say something", found, samples)
	}
}

func TestPhaseOfLoop(t *testing.T) {
	low := complex(at(0x3f3504f3), at(0x3f3504f3))
	cases := []struct {
		list []impl.Spinor
		want complex64
	}{
		{[]impl.Spinor{{1, i64}}, 1},
		{[]impl.Spinor{{1, i64}, {1, 1}}, 1},
		{[]impl.Spinor{up, {1, 1}, {1, i64}}, low},
		{[]impl.Spinor{{1, i64}, {1, 1}, up}, mirrored(low)},
		{[]impl.Spinor{up, {1, 1}, {1, i64}, {1, -1}}, i64},
		{[]impl.Spinor{up, {1, 1}, {1, i64}, {1, -1}, {1, -i64}}, complex(-at(0x3f3504f3), at(0x3f3504f3))},
		{line(two(-37)), 1},
		// The square of the invariant is rounded to the least number, so that the phase is not 1.
		{line(1.5 * two(-38)), complex(at(0x3f4ba592), 0)},
		{line(two(31)), 1},
	}
	for _, c := range cases {
		z, code := impl.PhaseOfLoop(c.list)
		wantValue(t, "PhaseOfLoop", z, code, c.want)
	}
}

func TestPhaseOfLoopErrors(t *testing.T) {
	for _, list := range [][]impl.Spinor{
		{{}}, {{minusPair, minusPair}}, {up, down}, {down, up, {1, 1}}, {up, {1, 1}, {1, -1}},
		// The invariant is not 0, but its square is.
		line(two(-38)), line(two(-37), i64*two(-38)), line(1, two(-37), two(-38)), line(complex(at(1), 0)),
		{down, line(two(30))[0], up},
	} {
		z, code := impl.PhaseOfLoop(list)
		wantNone(t, "PhaseOfLoop", z, code, impl.ErrState)
	}
	for _, list := range [][]impl.Spinor{
		{{greatest, greatest}}, line(two(64)), line(1, two(64)),
		// The invariant is finite, but its square is not.
		line(two(32)), line(two(31), 2i), line(1, two(20), two(44)),
		// All inner products come first, even beside one that is 0.
		{down, line(two(64))[0], line(two(64))[0]}, {line(two(64))[0], line(two(64))[0], down},
	} {
		z, code := impl.PhaseOfLoop(list)
		wantNone(t, "PhaseOfLoop", z, code, impl.ErrLimit)
	}
}
