package tests

import (
	"testing"

	"loop.example/g01214/impl"
)

func TestParallelPolygon(t *testing.T) {
	above := complex(at(0x3f87c3b7), 0)
	cases := [][2][]impl.Spinor{
		{{up, {2i, 0}}, {up, {2, 0}}},
		{{up, {i64, 1}, {-2, 2i}}, {up, {1, -i64}, {2, -2i}}},
		// It is the corner before in the parallel polygon that counts.
		{line(1, i64, 1, -i64, -1), line(1, 1, 1, 1, 1)},
		{line(i64, 1, 2, -3), line(i64, i64, 2i, 3i)},
		{{{0, -2}, {1, i64}}, {{0, -2}, {i64, -1}}},
		{{{3, 4i}, {-3i, 4}}, {{3, 4i}, {3, 4i}}},
		{{up, {complex(3, 4), 5}}, {up, {complex(5, power(-24)), complex(3, -4)}}},
		{{{1, minusPair}, {-1, complex(minusZero, 2)}}, {up, {1, -2i}}},
		// The square of the inner product is rounded to the least number, so that its phase is not 1.
		{{up, {1.5 * two(-75), 1}}, {up, {above * 1.5 * two(-75), above}}},
		{{up, {two(63), complex(at(1), 0)}}, {up, {two(63), complex(at(1), 0)}}},
	}
	for _, c := range cases {
		parallel, code := impl.ParallelPolygon(c[0])
		wantList(t, "ParallelPolygon", parallel, code, c[1])
	}
	// One corner stays as it is, whatever its norm is.
	for _, s := range goodSpinors() {
		parallel, code := impl.ParallelPolygon([]impl.Spinor{s})
		wantList(t, "ParallelPolygon", parallel, code, []impl.Spinor{s})
	}
}

// brokenPolygons end parallel polygons with ErrState and with ErrLimit. Which of them is met first
// counts, not which would be met behind it.
func brokenPolygons() map[int64][][]impl.Spinor {
	big, most := impl.Spinor{two(64), 0}, complex64(complex(greatest, greatest))
	return map[int64][][]impl.Spinor{
		impl.ErrState: {
			{up, down}, {{}, up}, {up, {}}, {up, {minusPair, 1}}, {{1, 1}, {1, -1}}, {{1, i64}, {i64, 1}},
			{up, {two(-75), 1}}, {up, {complex(power(-76), power(-76)), most}}, {{two(-40), 0}, {i64 * two(-36), 1}},
			{up, {complex(at(1), 0), 1}}, {down, {1, complex(at(1<<23-1), 0)}},
			{up, {1, 1}, {1, -1}}, {up, {1, 1}, {1, i64}, {complex(-1, 1), complex(1, 1)}},
			{up, down, big, big}, {big, down, {most, most}, up}, {{}, {most, most}, {most, most}},
		},
		impl.ErrLimit: {
			{big, big}, {up, big}, {big, up}, {up, {-i64 * two(64), 1}}, {down, {0, most}}, {{most, most}, {most, most}},
			// The inner product is finite, and so is its square, but not the product with the phase.
			{up, {complex(1, 1), most}}, {up, {complex(1, -1), most}}, {up, {1.5 * two(-75), greatest}},
			{up, big, down}, {up, {complex(1, 1), most}, {}}, {up, {i64, 0}, big, {}}, {big, big, {}, up},
		},
	}
}

func TestParallelPolygonErrors(t *testing.T) {
	for want, polygons := range brokenPolygons() {
		for _, list := range polygons {
			parallel, code := impl.ParallelPolygon(list)
			wantNoList(t, "ParallelPolygon", parallel, code, want)
			phase, code := impl.ClosingPhase(list)
			wantNone(t, "ClosingPhase", phase, code, want)
		}
	}
}

func TestClosingPhase(t *testing.T) {
	low, near := at(0x3f3504f3), at(0x3f3504f4)
	cases := []struct {
		list []impl.Spinor
		want complex64
	}{
		{[]impl.Spinor{{1, i64}}, 1},
		{line(2i), 1},
		{line(1, 2i), 1},
		{line(1, i64, -1, -3i, complex(0, 7)), 1},
		{[]impl.Spinor{up, {i64, 1}, {-2, 2i}}, 1},
		{[]impl.Spinor{up, {1, 1}, {1, i64}}, complex(near, near)},
		{[]impl.Spinor{up, {1, i64}, {1, 1}}, complex(near, -near)},
		{[]impl.Spinor{{1, 1}, {1, i64}, {2, 0}}, complex(near, near)},
		{[]impl.Spinor{{1, i64}, up, {1, 1}}, complex(low, low)},
		{line(1.5 * two(-37)), complex(at(0x3f80cc2a), 0)},
		{line(two(31)), 1},
		{line(two(-37), i64), 1},
	}
	for _, c := range cases {
		z, code := impl.ClosingPhase(c.list)
		wantValue(t, "ClosingPhase", z, code, c.want)
	}
}

// The parallel polygons of these are found, but not the phases behind them.
func TestClosingPhaseErrors(t *testing.T) {
	cases := map[int64][][]impl.Spinor{
		impl.ErrState: {{{}}, {{minusPair, minusPair}}, line(two(-38)), line(complex(at(1), 0)), {up, {1, 1}, down}, {{1, -1}, {1, i64}, {1, 1}}, line(two(-40), 1, two(-36))},
		impl.ErrLimit: {line(two(32)), line(two(64)), {{greatest, greatest}}, line(two(40), two(-10), i64*two(40)), line(two(100), two(-60), two(100))},
	}
	for want, polygons := range cases {
		for _, list := range polygons {
			parallel, code := impl.ParallelPolygon(list)
			if len(parallel) != len(list) || code != impl.ErrNone {
				t.Errorf("ParallelPolygon(%v) = %v, %d", list, parallel, code)
			}
			z, code := impl.ClosingPhase(list)
			wantNone(t, "ClosingPhase", z, code, want)
		}
	}
}

func TestParallelPolygonsExactly(t *testing.T) {
	s := &sampler{state: 145}
	codes := map[int64]int{}
	for n := 1; n <= 24; n++ {
		for range 20 + 1200/(n*n) {
			list := s.polygon(n)
			want, wantCode := new(reckoner).parallel(list)
			parallel, code := impl.ParallelPolygon(list)
			wantListOutcome(t, "ParallelPolygon", parallel, code, want, wantCode)
			wantPhase, wantCode := new(reckoner).closing(list)
			phase, code := impl.ClosingPhase(list)
			wantOutcome(t, "ClosingPhase", phase, code, wantPhase, wantCode)
			codes[code]++
		}
	}
	if codes[impl.ErrNone] < 800 || codes[impl.ErrState] < 100 || codes[impl.ErrLimit] < 100 {
		t.Errorf("ClosingPhase gave the codes %v", codes)
	}
}
