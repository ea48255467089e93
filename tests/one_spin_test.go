package tests

import (
	"testing"

	"loop.example/g01214/impl"
)

func TestTurnOne(t *testing.T) {
	low, tiny := complex(power(-75), 0), complex(at(1), 0)
	cases := []struct {
		a             impl.Turn
		p             impl.Pair
		first, second impl.Pair
	}{
		{impl.Turn{}, impl.Pair{greatest, 1, minusPair, i64}, impl.Pair{}, impl.Pair{}},
		{impl.Turn{{0, 1}, {1, 0}}, impl.Pair{1, 2, 3, 4}, impl.Pair{3, 4, 1, 2}, impl.Pair{2, 1, 4, 3}},
		{impl.Turn{{1, 2}, {3, 4}}, impl.Pair{5, 6, 7, 8}, impl.Pair{19, 22, 43, 50}, impl.Pair{17, 39, 23, 53}},
		{impl.Turn{{i64, 0}, {0, 1}}, impl.Pair{1, 2, 3, 4}, impl.Pair{1i, 2i, 3, 4}, impl.Pair{1i, 2, 3i, 4}},
		{impl.Turn{{0, i64}, {0, 0}}, impl.Pair{1, 2, 3, i64}, impl.Pair{3i, -1, 0, 0}, impl.Pair{2i, 0, -1, 0}},
		{impl.Turn{{0, 0}, {complex(1, 1), 0}}, impl.Pair{1, i64, 3, 4}, impl.Pair{0, 0, complex(1, 1), complex(-1, 1)}, impl.Pair{0, complex(1, 1), 0, complex(3, 3)}},
		// Both products are rounded before they are added.
		{impl.Turn{{low, low}, {1, 0}}, impl.Pair{low, low, low, low}, impl.Pair{0, 0, low, low}, impl.Pair{0, low, 0, low}},
		{impl.Turn{{4097, 4096}, {0, 0}}, impl.Pair{4097, -4098, -4098, 0}, impl.Pair{0, -4097 * 4098, 0, 0}, impl.Pair{0, 0, -4097 * 4098, 0}},
		{impl.Turn{{0.5, 0}, {0, 1}}, impl.Pair{tiny, 3 * tiny, i64 * tiny, 3i * tiny}, impl.Pair{0, 2 * tiny, 1i * tiny, 3i * tiny}, impl.Pair{0, 3 * tiny, 0, 3i * tiny}},
	}
	for _, c := range cases {
		p, code := impl.TurnOne(c.a, c.p, 0)
		wantValue(t, "TurnOne of the first spin", p, code, c.first)
		p, code = impl.TurnOne(c.a, c.p, 1)
		wantValue(t, "TurnOne of the second spin", p, code, c.second)
	}
}

func TestTurnOneAtTheLimit(t *testing.T) {
	big, most := complex(power(64), 0), complex64(greatest)
	rows := [][2]impl.Spinor{
		{{big, 0}, {big, 0}}, {{0, big}, {0, i64 * big}}, {{big, big}, {big, -big}},
		{{most, most}, {1, 1}}, {{most, i64}, {-i64, -most}}, {{most, 1}, {1, complex(power(103), 0)}},
	}
	for row := range 2 {
		for _, c := range rows {
			var a impl.Turn
			a[row] = c[0]
			for other := range 2 {
				var p impl.Pair
				p[other], p[2+other] = c[1][0], c[1][1]
				turned, code := impl.TurnOne(a, p, 0)
				wantNone(t, "TurnOne", turned, code, impl.ErrLimit)
				turned, code = impl.TurnOne(a, exchangedInside(p), 1)
				wantNone(t, "TurnOne", turned, code, impl.ErrLimit)
			}
			controlled, code := impl.ControlPair(a, impl.Pair{0, 0, c[1][0], c[1][1]})
			wantNone(t, "ControlPair", controlled, code, impl.ErrLimit)
			// The first two entries are not looked at.
			p := impl.Pair{c[1][0], c[1][1], 0, 0}
			controlled, code = impl.ControlPair(a, p)
			wantValue(t, "ControlPair", controlled, code, p)
		}
	}
	p, code := impl.TurnOne(impl.Turn{{most, 1}, {0, 0}}, impl.Pair{1, complex(power(102), 0), 0, 0}, 1)
	wantValue(t, "TurnOne", p, code, impl.Pair{most, 0, 0, 0})
}

func TestControlPair(t *testing.T) {
	low := complex(power(-75), 0)
	cases := []struct {
		a       impl.Turn
		p, want impl.Pair
	}{
		{impl.Turn{}, impl.Pair{greatest, i64, 3, 4}, impl.Pair{greatest, i64, 0, 0}},
		{unit, impl.Pair{1, i64, 3, greatest}, impl.Pair{1, i64, 3, greatest}},
		{impl.Turn{{0, 1}, {1, 0}}, impl.Pair{1, 2, 3, 4}, impl.Pair{1, 2, 4, 3}},
		{impl.Turn{{1, 2}, {3, 4}}, impl.Pair{5, 6, 7, 8}, impl.Pair{5, 6, 23, 53}},
		{impl.Turn{{i64, 1}, {complex(1, 1), -i64}}, impl.Pair{minusPair, complex(at(1), -greatest), 2, i64}, impl.Pair{0, complex(at(1), -greatest), complex(0, 3), complex(3, 2)}},
		{impl.Turn{{low, low}, {0, 1}}, impl.Pair{low, low, low, low}, impl.Pair{low, low, 0, low}},
		{impl.Turn{{1, 0}, {0, 0.5}}, impl.Pair{complex(at(1), 0), complex(at(3), 0), complex(at(1), 0), complex(at(1), at(3))}, impl.Pair{complex(at(1), 0), complex(at(3), 0), complex(at(1), 0), complex(0, at(2))}},
	}
	for _, c := range cases {
		p, code := impl.ControlPair(c.a, c.p)
		wantValue(t, "ControlPair", p, code, c.want)
	}
}

func TestTurnsOfPairsExactly(t *testing.T) {
	s := &sampler{state: 123}
	found := 0
	for range samples / 2 {
		v := s.spinors(4)
		a, p := impl.Turn{v[0], v[1]}, impl.Pair{v[2][0], v[2][1], v[3][0], v[3][1]}
		if s.next(4) == 0 {
			a = s.turning()
		}
		for which := range int64(2) {
			r := &reckoner{}
			want := r.turnedOne(a, p, which)
			turned, code := impl.TurnOne(a, p, which)
			wantReckoned(t, r, "TurnOne", turned, code, want)
			if code == impl.ErrNone && turned != (impl.Pair{}) {
				found++
			}
		}
		r := &reckoner{}
		want := r.controlled(a, p)
		controlled, code := impl.ControlPair(a, p)
		wantReckoned(t, r, "ControlPair", controlled, code, want)
	}
	if found < samples/3 {
		t.Errorf("only %d of %d pairs say something", found, samples)
	}
}

// Promise 7: turning the first spin is turning the second one of the swapped pair.
func TestTurnsOfSwappedPairs(t *testing.T) {
	s := &sampler{state: 124}
	found := 0
	for _, p := range somePairs(s, samples) {
		a := s.anyTables(1)[0]
		swapped, code := impl.SwapPair(p)
		wantValue(t, "SwapPair", swapped, code, exchangedInside(p))
		first, code := impl.TurnOne(a, p, 0)
		second, codeSecond := impl.TurnOne(a, swapped, 1)
		if exchangedInside(second) != first || codeSecond != code {
			t.Errorf("of %v by %v: %v, %d and %v, %d", p, a, first, code, second, codeSecond)
		}
		first, codeFirst := impl.TurnOne(a, swapped, 0)
		second, codeSecond = impl.TurnOne(a, p, 1)
		if exchangedInside(second) != first || codeSecond != codeFirst {
			t.Errorf("of %v by %v: %v, %d and %v, %d", swapped, a, first, codeFirst, second, codeSecond)
		}
		if code == impl.ErrNone && first != second {
			found++
		}
	}
	if found < samples/4 {
		t.Errorf("only %d of %d pairs say something", found, samples)
	}
}

// Promise 7, with pairs that are found without the program.
func TestKnownTurnsOfSwappedPairs(t *testing.T) {
	a, p := impl.Turn{{1, 2}, {i64, -1}}, impl.Pair{1, complex(0, 2), 3, complex(1, 1)}
	first, code := impl.TurnOne(a, p, 0)
	wantValue(t, "TurnOne", first, code, impl.Pair{7, complex(2, 4), complex(-3, 1), complex(-3, -1)})
	swapped, code := impl.SwapPair(p)
	wantValue(t, "SwapPair", swapped, code, impl.Pair{1, 3, complex(0, 2), complex(1, 1)})
	second, code := impl.TurnOne(a, swapped, 1)
	wantValue(t, "TurnOne", second, code, impl.Pair{7, complex(-3, 1), complex(2, 4), complex(-3, -1)})
}

func wantEitherOrder(t *testing.T, a, b impl.Turn, p impl.Pair) impl.Pair {
	t.Helper()
	first, code := impl.TurnOne(a, p, 0)
	wantValue(t, "TurnOne", first, code, new(reckoner).turnedFirst(a, p))
	both, code := impl.TurnOne(b, first, 1)
	second, codeSecond := impl.TurnOne(b, p, 1)
	wantValue(t, "TurnOne", second, codeSecond, new(reckoner).turnedSecond(b, p))
	other, codeOther := impl.TurnOne(a, second, 0)
	if both != other || code != impl.ErrNone || codeOther != impl.ErrNone {
		t.Errorf("of %v by %v and %v: %v, %d and %v, %d", p, a, b, both, code, other, codeOther)
	}
	return both
}

// The guarantee of chapter 7: turns of both spins may be made in either order for tables of whole
// numbers. Nothing is rounded here, even with pairs of few digits that are no whole numbers.
func TestTurnsOfBothSpinsInEitherOrder(t *testing.T) {
	s := &sampler{state: 125}
	found := 0
	for range samples / 4 {
		a, b, p := s.wholeTable(20), s.wholeTable(20), s.wholePair(100)
		scale := complex(power(int(s.next(200))-149), 0)
		for k := range p {
			p[k] *= scale
		}
		if wantEitherOrder(t, a, b, p) != p {
			found++
		}
	}
	if found < samples/5 {
		t.Errorf("only %d of %d pairs say something", found, samples/4)
	}
}

// Tables that only move entries and turn their phases round nothing, whatever the pair is.
func TestTurnsThatMoveEntriesInEitherOrder(t *testing.T) {
	moves := []impl.Turn{
		unit, {{0, 1}, {1, 0}}, {{0, -1}, {1, 0}}, {{0, -i64}, {-i64, 0}}, {{-i64, 0}, {0, i64}}, {{1, 0}, {0, -1}},
	}
	s := &sampler{state: 126}
	for _, p := range somePairs(s, samples/10) {
		a, b := moves[s.next(6)], moves[s.next(6)]
		wantEitherOrder(t, a, b, p)
	}
	both := wantEitherOrder(t, moves[1], moves[2], impl.Pair{1, complex(0, 2), 3, complex(1, 1)})
	wantValue(t, "TurnOne", both, impl.ErrNone, impl.Pair{complex(-1, -1), 3, complex(0, -2), 1})
}
