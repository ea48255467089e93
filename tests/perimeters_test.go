package tests

import (
	"slices"
	"testing"

	"loop.example/g01214/impl"
)

func TestPerimeterOf(t *testing.T) {
	zeros := slices.Repeat([]impl.Spinor{{}}, 6)
	side := impl.Spinor{1, i64}
	cases := []struct {
		list []impl.Spinor
		want float32
	}{
		{[]impl.Spinor{up}, 0},
		{[]impl.Spinor{side}, -3},
		{[]impl.Spinor{{}}, 1},
		{[]impl.Spinor{{minusPair, minusPair}}, 1},
		{[]impl.Spinor{up, down}, 2},
		{[]impl.Spinor{up, side}, 0},
		{[]impl.Spinor{side, {1, 1}}, -2},
		{[]impl.Spinor{up, down, side}, 1},
		{[]impl.Spinor{up, down, {1, -1}, side}, 0},
		{line(0.5), 0.9375},
		{line(0.5, 1), 1.5},
		{line(0.5, 1, i64), 1.5},
		// 1 less a transition is rounded: 2^-26 is lost, and so is 1.
		{line(complex(0, power(-12)), complex(power(-1), 0)), 2},
		{line(1, two(13)), -power(27)},
		{line(two(-75)), 1},
		// The sum is made from the left: six times 1, then twice 1 - 2^26, then 1; or the other way.
		{slices.Concat(zeros, line(1, 8192, 1)), -(1<<27 - 8)},
		{slices.Concat(line(1, 8192, 1), zeros), -1 << 27},
		{[]impl.Spinor{up, {two(63), 1}}, -power(127)},
	}
	for _, c := range cases {
		x, code := impl.PerimeterOf(c.list)
		wantValue(t, "PerimeterOf", x, code, c.want)
	}
	for n := 1; n <= 24; n++ {
		x, code := impl.PerimeterOf(make([]impl.Spinor, n))
		wantValue(t, "PerimeterOf", x, code, float32(n))
	}
}

func TestPerimeterOfAtTheLimit(t *testing.T) {
	much := complex(1.4*power(63), 0)
	for _, list := range [][]impl.Spinor{
		line(two(64)), {{greatest, greatest}}, line(1, two(64)), line(1, 1, i64*two(64)), {down, {0, two(64)}, down},
		{{two(63), two(63)}, {two(64), two(64)}}, {up, {complex(1.5*power(63), 1.5*power(63)), 0}},
		// Only the sum is not finite.
		line(1, much, 1, much), line(much, i64, much, 1, 0, 0, 0),
	} {
		x, code := impl.PerimeterOf(list)
		wantNone(t, "PerimeterOf", x, code, impl.ErrLimit)
	}
	x, code := impl.PerimeterOf(line(1, two(63), 1, 1))
	wantValue(t, "PerimeterOf", x, code, -power(127))
}

func TestPerimeterOfExactly(t *testing.T) {
	s := &sampler{state: 154}
	found, count := 0, 0
	for n := 1; n <= 24; n++ {
		for range 20 + 600/(n*n) {
			list, r := s.polygon(n), &reckoner{}
			want := r.perimeter(list)
			x, code := impl.PerimeterOf(list)
			wantReckoned(t, r, "PerimeterOf", x, code, want)
			count++
			if code == impl.ErrNone && x != float32(n) {
				found++
			}
		}
	}
	if found < count/3 {
		t.Errorf("only %d of %d perimeters say something", found, count)
	}
}
