package tests

import (
	"testing"

	"loop.example/g01214/impl"
)

func TestMiddleOf(t *testing.T) {
	first, second := complex(float32(0.8944272), 0), complex(float32(0.4472136), 0)
	cases := [][3]impl.Spinor{
		{up, up, up},
		{{2, 0}, {2, 0}, up},
		{up, {2i, 0}, up},
		{{2i, 0}, up, {i64, 0}},
		{{0, -3}, {0, complex(0, 5)}, {0, -1}},
		{up, {1, 1}, {first, second}},
		{{1, 1}, up, {first, second}},
		{up, {i64, 1}, {first, -i64 * second}},
		{{i64, 1}, up, {i64 * first, second}},
		// None of them is renewed before the sum.
		{{6, 0}, {2, complex(0, 6)}, {complex(float32(0.8), 0), complex(0, float32(0.6))}},
		{{complex(3, 0), 2}, {complex(1, 0), 1}, {complex(float32(0.8), 0), complex(float32(0.6), 0)}},
		{{-1, minusPair}, {complex(minusZero, 3), minusPair}, {-1, 0}},
		{{two(-74), 0}, {1, 0}, up},
		{{two(63), 0}, {1, 1}, {1, two(-63)}},
	}
	for _, c := range cases {
		middle, code := impl.MiddleOf(c[0], c[1])
		wantValue(t, "MiddleOf", middle, code, c[2])
	}
}

func TestMiddleOfErrors(t *testing.T) {
	for want, polygons := range brokenPolygons() {
		for _, list := range polygons {
			if len(list) == 2 {
				middle, code := impl.MiddleOf(list[0], list[1])
				wantNone(t, "MiddleOf", middle, code, want)
			}
		}
	}
	// Without norms there is no phase; a norm that is not finite comes behind the phase.
	for _, s := range []impl.Spinor{{}, {minusPair, minusPair}, {two(-75), two(-75)}, {complex(at(1), 0), complex(0, -at(1))}, {two(-38), 0}} {
		middle, code := impl.MiddleOf(s, s)
		wantNone(t, "MiddleOf", middle, code, impl.ErrState)
	}
	middle, code := impl.MiddleOf(impl.Spinor{0, greatest}, up)
	wantNone(t, "MiddleOf", middle, code, impl.ErrState)
	for _, s := range []impl.Spinor{{1, greatest}, {1, two(64)}, {i64, complex(1.5*power(63), 1.5*power(63))}} {
		for _, pair := range [][2]impl.Spinor{{s, up}, {up, s}} {
			middle, code = impl.MiddleOf(pair[0], pair[1])
			wantNone(t, "MiddleOf", middle, code, impl.ErrLimit)
		}
	}
}

func TestRefinePolygon(t *testing.T) {
	first, second := complex(float32(0.8944272), 0), complex(float32(0.4472136), 0)
	cases := [][2][]impl.Spinor{
		{{up}, {up, up}},
		// The corners stay as they are, and only the middles are renewed.
		{{{0, 2i}}, {{0, 2i}, {0, i64}}},
		{{up, {2i, 0}}, {up, up, {2i, 0}, {i64, 0}}},
		{{up, {1, 1}}, {up, {first, second}, {1, 1}, {first, second}}},
		{line(1, 3i, -5), {up, up, {3i, 0}, {i64, 0}, {-5, 0}, {-1, 0}}},
		{{up, {i64, 1}, {1, -i64}}, {up, {first, -i64 * second}, {i64, 1}, {complex(0, at(0x3f3504f3)), complex(at(0x3f3504f3), 0)}, {1, -i64}, {first, -i64 * second}}},
	}
	for _, c := range cases {
		refined, code := impl.RefinePolygon(c[0])
		wantList(t, "RefinePolygon", refined, code, c[1])
	}
}

func TestRefinePolygonErrors(t *testing.T) {
	big := impl.Spinor{two(64), 0}
	cases := map[int64][][]impl.Spinor{
		impl.ErrState: {
			{{}}, line(two(-38)), {up, down}, {up, {1, 1}, down}, {up, up, down},
			// The sides are gone through from the first one on, the last one to the first corner last.
			{up, down, big}, {down, up, big, big}, {{1, 1}, down, up, big},
		},
		impl.ErrLimit: {
			{big}, {up, big}, line(two(32)), {{1, greatest}, up}, {up, {1, 1}, {1, greatest}},
			{up, big, down}, {up, {1, 1}, {1, two(64)}, {}}, line(two(40), two(-10), two(40)), {big, up, down},
		},
	}
	for want, polygons := range cases {
		for _, list := range polygons {
			refined, code := impl.RefinePolygon(list)
			wantNoList(t, "RefinePolygon", refined, code, want)
		}
	}
}

func TestMiddlesExactly(t *testing.T) {
	s := &sampler{state: 146}
	codes := map[int64]int{}
	for range samples / 2 {
		both := s.polygon(2)
		want, wantCode := new(reckoner).middle(both[0], both[1])
		middle, code := impl.MiddleOf(both[0], both[1])
		wantOutcome(t, "MiddleOf", middle, code, want, wantCode)
		codes[code]++
	}
	if codes[impl.ErrNone] < samples/4 || codes[impl.ErrState] < samples/50 || codes[impl.ErrLimit] < samples/50 {
		t.Errorf("MiddleOf gave the codes %v", codes)
	}
}

func TestRefinedPolygonsExactly(t *testing.T) {
	s := &sampler{state: 147}
	codes := map[int64]int{}
	for n := 1; n <= 12; n++ {
		for range 40 + 300/(n*n) {
			list := s.polygon(n)
			want, wantCode := new(reckoner).refined(list)
			refined, code := impl.RefinePolygon(list)
			wantListOutcome(t, "RefinePolygon", refined, code, want, wantCode)
			codes[code]++
		}
	}
	if codes[impl.ErrNone] < 250 || codes[impl.ErrState] < 50 || codes[impl.ErrLimit] < 50 {
		t.Errorf("RefinePolygon gave the codes %v", codes)
	}
}
