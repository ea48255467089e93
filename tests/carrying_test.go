package tests

import (
	"testing"

	"loop.example/g01214/impl"
)

func TestCarryingTable(t *testing.T) {
	low := two(-75)
	cases := []struct {
		s, t impl.Spinor
		want impl.Turn
	}{
		{up, up, unit},
		{down, down, unit},
		{up, down, impl.Turn{{0, -1}, {1, 0}}},
		{down, up, impl.Turn{{0, 1}, {-1, 0}}},
		{up, impl.Spinor{i64, 0}, impl.Turn{{i64, 0}, {0, -i64}}},
		{impl.Spinor{i64, 0}, up, impl.Turn{{-i64, 0}, {0, i64}}},
		{impl.Spinor{1, i64}, impl.Spinor{1, i64}, impl.Turn{{2, 0}, {0, 2}}},
		{impl.Spinor{1, 2}, impl.Spinor{3, 4i}, impl.Turn{{complex(3, -8), complex(6, 4)}, {complex(-6, 4), complex(3, 8)}}},
		{impl.Spinor{}, impl.Spinor{greatest, i64}, impl.Turn{}},
		{impl.Spinor{complex(minusZero, 1), minusPair}, up, impl.Turn{{-i64, 0}, {0, i64}}},
		// Each product is rounded before it is added.
		{impl.Spinor{4097, -4098}, impl.Spinor{4097, 4096}, impl.Turn{{0, -4097*4098 - 4096*4097}, {4097*4098 + 4096*4097, 0}}},
		{impl.Spinor{low, low}, impl.Spinor{low, low}, impl.Turn{}},
		{impl.Spinor{1.5 * low, low}, impl.Spinor{low, low}, impl.Turn{{complex(at(1), 0), complex(-at(1), 0)}, {complex(at(1), 0), complex(at(1), 0)}}},
		{impl.Spinor{complex(at(1), 0), 1}, up, impl.Turn{{complex(at(1), 0), 1}, {-1, complex(at(1), 0)}}},
	}
	for _, c := range cases {
		table, code := impl.CarryingTable(c.s, c.t)
		wantValue(t, "CarryingTable", table, code, c.want)
	}
}

func TestCarryingTableAtTheLimit(t *testing.T) {
	big, half := two(64), two(63)
	for _, pair := range [][2]impl.Spinor{
		{{big, 0}, {big, 0}}, {{0, big}, {big, 0}}, {{big, 0}, {0, -i64 * big}}, {{0, big}, {0, i64 * big}},
		{{greatest, greatest}, {1, 2}}, {{greatest, greatest}, {greatest, greatest}},
		// Only sums are not finite: those of the diagonal, and the other ones.
		{{half, half}, {big, big}}, {{half, half}, {big, -big}}, {{half, i64 * half}, {big, i64 * big}}, {{half, i64 * half}, {big, -i64 * big}},
	} {
		for _, order := range [][2]impl.Spinor{pair, {pair[1], pair[0]}} {
			table, code := impl.CarryingTable(order[0], order[1])
			wantNone(t, "CarryingTable", table, code, impl.ErrLimit)
		}
	}
	table, code := impl.CarryingTable(impl.Spinor{half, half}, impl.Spinor{big, i64 * big})
	whole := two(127)
	wantValue(t, "CarryingTable", table, code, impl.Turn{{whole - i64*whole, whole + i64*whole}, {-whole + i64*whole, whole + i64*whole}})
}

func TestCarryingTableExactly(t *testing.T) {
	s := &sampler{state: 148}
	found := 0
	for range samples / 2 {
		both, r := s.polygon(2), &reckoner{}
		want := r.carrying(both[0], both[1])
		table, code := impl.CarryingTable(both[0], both[1])
		wantReckoned(t, r, "CarryingTable", table, code, want)
		if code == impl.ErrNone && table != (impl.Turn{}) {
			found++
		}
	}
	if found < samples/4 {
		t.Errorf("only %d of %d tables say something", found, samples/2)
	}
}

// Promise 8: the carrying table the other way is the adjoint.
func TestCarryingTheOtherWay(t *testing.T) {
	s := &sampler{state: 149}
	list, found := goodSpinors(), 0
	for range samples {
		both := s.polygon(2)
		if s.next(20) == 0 {
			both[1] = list[s.next(int64(len(list)))]
		}
		there, code := impl.CarryingTable(both[0], both[1])
		back, codeBack := impl.CarryingTable(both[1], both[0])
		if back != daggered(there) || codeBack != code {
			t.Errorf("between %v: %v, %d and %v, %d", both, there, code, back, codeBack)
		}
		if code == impl.ErrNone && back != there {
			found++
		}
	}
	if found < samples/3 {
		t.Errorf("only %d of %d tables say something", found, samples)
	}
}

// Promise 8, with tables that are found without the program.
func TestKnownCarryingTheOtherWay(t *testing.T) {
	table, code := impl.CarryingTable(impl.Spinor{3, 4i}, impl.Spinor{1, 2})
	wantValue(t, "CarryingTable", table, code, impl.Turn{{complex(3, 8), complex(-6, -4)}, {complex(6, -4), complex(3, -8)}})
}

// What a carrying table makes of its first spinor is the second one, times the norm square.
func TestCarryingTablesCarry(t *testing.T) {
	s := &sampler{state: 150}
	for range samples / 6 {
		from, to := impl.Spinor{s.whole(30), s.whole(30)}, impl.Spinor{s.whole(30), s.whole(30)}
		square := complex(new(reckoner).normSquare(from), 0)
		table, _ := impl.CarryingTable(from, to)
		carried, code := impl.ApplyTurn(table, from)
		wantValue(t, "ApplyTurn", carried, code, impl.Spinor{square * to[0], square * to[1]})
	}
}

func TestRoundTable(t *testing.T) {
	cases := []struct {
		list []impl.Spinor
		want impl.Turn
	}{
		{[]impl.Spinor{up}, unit},
		{[]impl.Spinor{{1, i64}}, impl.Turn{{2, 0}, {0, 2}}},
		{[]impl.Spinor{up, down}, unit},
		{[]impl.Spinor{{1, 1}, {1, i64}}, impl.Turn{{4, 0}, {0, 4}}},
		{[]impl.Spinor{up, {1, 1}, {1, i64}}, impl.Turn{{4, 0}, {0, 4}}},
		{[]impl.Spinor{{}}, impl.Turn{}},
		{[]impl.Spinor{up, {minusPair, minusPair}, {1, i64}}, impl.Turn{}},
		// The product is made from the left, beginning with the table of the last side.
		{line(1, two(80), 1, two(-75)), impl.Turn{}},
		{line(two(-75), 1, two(80), 1), impl.Turn{{two(10), 0}, {0, two(10)}}},
		{line(two(-37)), impl.Turn{{two(-74), 0}, {0, two(-74)}}},
		{line(two(-75)), impl.Turn{}},
		{line(two(63)), impl.Turn{{two(126), 0}, {0, two(126)}}},
		{line(two(31), i64*two(32)), impl.Turn{{two(126), 0}, {0, two(126)}}},
	}
	for _, c := range cases {
		table, code := impl.RoundTable(c.list)
		wantValue(t, "RoundTable", table, code, c.want)
	}
}

func TestRoundTableAtTheLimit(t *testing.T) {
	for _, list := range [][]impl.Spinor{
		line(two(64)), {{greatest, greatest}}, line(1, two(64)), {{two(63), two(63)}, {two(64), two(64)}},
		// A carrying table is not finite, even beside one that is 0.
		{up, line(two(64))[0], line(two(64))[0], {}, {}}, {{}, {}, line(two(64))[0], line(two(64))[0]},
		// A product is not finite, though the next one would be.
		line(1, two(-75), 1, two(65)),
		{{0, two(64)}, up}, {down, {two(64), 0}},
	} {
		table, code := impl.RoundTable(list)
		wantNone(t, "RoundTable", table, code, impl.ErrLimit)
	}
}

func TestRoundTableExactly(t *testing.T) {
	s := &sampler{state: 151}
	found, count := 0, 0
	for n := 1; n <= 24; n++ {
		for range 10 + 300/(n*n) {
			list, r := s.polygon(n), &reckoner{}
			want := r.round(list)
			table, code := impl.RoundTable(list)
			wantReckoned(t, r, "RoundTable", table, code, want)
			count++
			if code == impl.ErrNone && table != (impl.Turn{}) {
				found++
			}
		}
	}
	if found < count/3 {
		t.Errorf("only %d of %d tables say something", found, count)
	}
}
