package tests

import (
	"slices"
	"strconv"
	"strings"
	"testing"

	"loop.example/g01214/impl"
)

// startDesk is the new desk, without help of the program.
var startDesk = impl.Desk{First: up, Second: down, Table: unit}

// busyDesk has something else in each of its parts than the new desk.
func busyDesk() impl.Desk {
	return impl.Desk{
		First:   impl.Spinor{3, 4i},
		Second:  impl.Spinor{1, 2},
		Table:   impl.Turn{{1, 2}, {i64, 3}},
		Polygon: []impl.Spinor{up, {1, 1}, {1, i64}},
	}
}

// withSpinors and the next functions return a desk with other parts.
func withSpinors(d impl.Desk, s, t impl.Spinor) impl.Desk {
	d.First, d.Second = s, t
	return d
}

func withFirst(d impl.Desk, s impl.Spinor) impl.Desk { return withSpinors(d, s, d.Second) }

func withTable(d impl.Desk, a impl.Turn) impl.Desk {
	d.Table = a
	return d
}

func withPolygon(d impl.Desk, list ...impl.Spinor) impl.Desk {
	d.Polygon = list
	return d
}

// plainCommands stand alone in a line.
var plainCommands = []string{
	"swap", "renew", "opposite", "free", "add", "show", "other", "table", "inner", "transition", "vector", "norm", "unit",
	"adjoint", "fix", "drift", "apply", "carry", "purity", "keep", "clear", "refine", "phase", "closing", "reset",
}

// wordyLines has a right line for each of the other commands.
var wordyLines = []string{"first 3f800000,-40000000 0,1", "second -1,0 3f800000,0", "up 3", "down 1", "turn 1 0", "sequence y0 -x2"}

func allLines() []string { return slices.Concat(plainCommands, wordyLines) }

func TestNewDesk(t *testing.T) {
	if impl.MaxConsole != 3000 || impl.MaxLines != 40 {
		t.Errorf("MaxConsole = %d, MaxLines = %d", impl.MaxConsole, impl.MaxLines)
	}
	if d := impl.NewDesk(); !sameDesk(d, startDesk) || !impl.IsDesk(d) {
		t.Errorf("NewDesk() = %v", d)
	}
	for _, d := range []impl.Desk{busyDesk(), startDesk, {}} {
		wantLine(t, d, "reset", startDesk, "ok")
	}
}

func TestCommandsOfSpinors(t *testing.T) {
	d := busyDesk()
	low, high := complex(float32(0.6), 0), complex(float32(0.8), 0)
	edge := impl.Spinor{complex(greatest, -greatest), complex(-at(1), at(1<<23))}
	wantLine(t, d, "first 3f800000,-40000000 0,1", withFirst(d, impl.Spinor{complex(1, -2), complex(0, at(1))}), "3f800000,-40000000 0,1")
	wantLine(t, d, "first 7f7fffff,-7f7fffff -1,800000", withFirst(d, edge), "7f7fffff,-7f7fffff -1,800000")
	wantLine(t, d, "second 7f7fffff,-7f7fffff -1,800000", withSpinors(d, d.First, edge), "7f7fffff,-7f7fffff -1,800000")
	wantLine(t, d, "second 0,0 0,0", withSpinors(d, d.First, impl.Spinor{}), "0,0 0,0")
	wantLine(t, d, "swap", withSpinors(d, d.Second, d.First), "3f800000,0 40000000,0")
	wantLine(t, d, "renew", withFirst(d, impl.Spinor{low, i64 * high}), told(low, i64*high))
	wantLine(t, d, "opposite", withFirst(d, impl.Spinor{4i, 3}), "0,40800000 40400000,0")
	wantLine(t, withFirst(d, impl.Spinor{2i, 1}), "free", withFirst(d, impl.Spinor{2, -i64}), "0,3f800000")
	wantLine(t, withFirst(d, impl.Spinor{minusPair, -7}), "free", withFirst(d, impl.Spinor{0, 7}), "-3f800000,0")
	wantLine(t, d, "add", withFirst(d, impl.Spinor{4, complex(2, 4)}), "40800000,0 40000000,40800000")
	wantLine(t, d, "apply", withFirst(d, impl.Spinor{complex(3, 8), complex(0, 15)}), "40400000,41000000 0,41700000")
	wantLine(t, d, "show", d, "40400000,0 0,40800000")
	wantLine(t, d, "other", d, "3f800000,0 40000000,0")
	wantLine(t, withFirst(d, impl.Spinor{minusPair, complex(1, minusZero)}), "show", withFirst(d, down), "0,0 3f800000,0")
}

// All numbers from 0 to 300 are good.
func TestShifts(t *testing.T) {
	d := busyDesk()
	wantLine(t, d, "up 3", withFirst(d, impl.Spinor{24, 32i}), told(24, 32i))
	wantLine(t, d, "down 1", withFirst(d, impl.Spinor{1.5, 2i}), told(1.5, 2i))
	least, most := impl.Spinor{complex(at(1), 0), 0}, impl.Spinor{0, complex(0, -greatest)}
	for n := range 301 {
		word := strconv.Itoa(n)
		zero := withFirst(d, impl.Spinor{})
		wantLine(t, zero, "up "+word, zero, "0,0 0,0")
		wantLine(t, zero, "down "+word, zero, "0,0 0,0")
		lower := new(reckoner).shifted(most, -n)
		wantLine(t, withFirst(d, most), "down "+word, withFirst(d, lower), toldSpinor(lower))
		if n <= 276 {
			wantLine(t, withFirst(d, least), "up "+word, withFirst(d, impl.Spinor{two(n - 149), 0}), told(two(n-149), 0))
		} else {
			wantWrong(t, withFirst(d, least), "up "+word)
		}
	}
}

func TestCommandsThatOnlyTell(t *testing.T) {
	d := busyDesk()
	wantLine(t, d, "inner", d, "40400000,-41000000")
	wantLine(t, d, "transition", d, "42920000,0")
	wantLine(t, d, "vector", d, "0,0 41c00000,0 -40e00000,0")
	wantLine(t, d, "norm", d, "41c80000,0")
	wantLine(t, d, "table", d, "3f800000,0 40000000,0 0,3f800000 40400000,0")
	wantLine(t, d, "drift", d, "40800000,0")
	wantLine(t, withTable(d, unit), "drift", withTable(d, unit), "0,0")
	wantLine(t, d, "purity", d, "44470000,0")
	half := at(0x3f3504f3)
	wantLine(t, d, "phase", d, told(complex(half, half)))
	wantLine(t, d, "closing", d, told(complex(at(0x3f3504f4), at(0x3f3504f4))))
	fresh := map[string]string{
		"inner": "0,0", "transition": "0,0", "vector": "0,0 0,0 3f800000,0", "norm": "3f800000,0", "show": "3f800000,0 0,0",
		"other": "0,0 3f800000,0", "table": "3f800000,0 0,0 0,0 3f800000,0", "drift": "0,0", "purity": "40000000,0",
	}
	for command, output := range fresh {
		wantLine(t, startDesk, command, startDesk, output)
	}
}

func TestCommandsOfTables(t *testing.T) {
	d := busyDesk()
	low, high := complex(float32(0.6), 0), complex(float32(0.8), 0)
	wantLine(t, d, "unit", withTable(d, unit), "3f800000,0 0,0 0,0 3f800000,0")
	// The table that is turned comes last in the product.
	wantLine(t, d, "turn 1 0", withTable(d, impl.Turn{{-i64, -3}, {1, 2}}), told(-i64, -3, 1, 2))
	wantLine(t, d, "turn 0 0", withTable(d, impl.Turn{{1, -3i}, {-i64, -2i}}), told(1, -3i, -i64, -2i))
	wantLine(t, d, "turn 2 0", withTable(d, impl.Turn{{-i64, -2i}, {-1, 3i}}), told(-i64, -2i, -1, 3i))
	wantLine(t, d, "adjoint", withTable(d, impl.Turn{{1, -i64}, {2, 3}}), told(1, -i64, 2, 3))
	bent := withTable(d, impl.Turn{{3, 4i}, {7, 7}})
	wantLine(t, bent, "fix", withTable(d, impl.Turn{{low, i64 * high}, {i64 * high, low}}), told(low, i64*high, i64*high, low))
	carried := impl.Turn{{complex(3, 8), complex(-6, -4)}, {complex(6, -4), complex(3, -8)}}
	wantLine(t, d, "carry", withTable(d, carried), toldTable(carried))
}

// Opposite spinors, and such without a norm, are carried, too.
func TestCarry(t *testing.T) {
	cases := []struct {
		s, t impl.Spinor
		want impl.Turn
	}{
		{up, down, impl.Turn{{0, -1}, {1, 0}}},
		{down, up, impl.Turn{{0, 1}, {-1, 0}}},
		{impl.Spinor{1, i64}, impl.Spinor{i64, 1}, impl.Turn{{2i, 0}, {0, -2i}}},
		{impl.Spinor{}, up, impl.Turn{}},
		{up, impl.Spinor{minusPair, 0}, impl.Turn{}},
		{up, up, unit},
	}
	for _, c := range cases {
		d := withSpinors(busyDesk(), c.s, c.t)
		wantLine(t, d, "carry", withTable(d, c.want), toldTable(c.want))
	}
}

// Each axis and each number of halvings is good.
func TestTurns(t *testing.T) {
	for axis := range int64(3) {
		for k := range int64(25) {
			want := tableFor(impl.Pulse{Axis: axis, Halvings: k})
			line := "turn " + strconv.Itoa(int(axis)) + " " + strconv.Itoa(int(k))
			wantLine(t, startDesk, line, withTable(startDesk, want), toldTable(want))
		}
	}
}

func TestSequences(t *testing.T) {
	d := busyDesk()
	wantLine(t, d, "sequence ", withTable(d, unit), "3f800000,0 0,0 0,0 3f800000,0")
	wantLine(t, d, "sequence y0", withTable(d, impl.Turn{{0, -1}, {1, 0}}), told(0, -1, 1, 0))
	wantLine(t, d, "sequence -y0", withTable(d, impl.Turn{{0, 1}, {-1, 0}}), told(0, 1, -1, 0))
	wantLine(t, d, "sequence y0 x0", withTable(d, impl.Turn{{-i64, 0}, {0, i64}}), told(-i64, 0, 0, i64))
	wantLine(t, d, "sequence x0 y0 z0 -z0", withTable(d, impl.Turn{{i64, 0}, {0, -i64}}), told(i64, 0, 0, -i64))
	for _, p := range []impl.Pulse{x0, z1, lastPulse} {
		list := slices.Repeat([]impl.Pulse{p}, 60)
		want := new(reckoner).tablesFor(list, 0)[60]
		wantLine(t, d, "sequence "+textFor(list), withTable(d, want), toldTable(want))
		wantWrong(t, d, "sequence "+textFor(append(list, p)))
	}
	for _, line := range []string{"sequence", "sequence  ", "sequence  x0", "sequence x0 ", "sequence x0  y0", "sequence x25", "sequence w1", "sequence x01", "sequence x0,y0", "sequence\tx0", "Sequence x0", "sequencex0", "sequence sequence"} {
		wantWrong(t, d, line)
	}
}

func TestKeepAndClear(t *testing.T) {
	for n := range 25 {
		d := withPolygon(busyDesk(), repeatedSpinor(impl.Spinor{1, i64}, n)...)
		if n < 24 {
			wantLine(t, d, "keep", withPolygon(d, append(slices.Clone(d.Polygon), d.First)...), strconv.Itoa(n+1))
		} else {
			wantWrong(t, d, "keep")
		}
		wantLine(t, d, "clear", withPolygon(d), "0")
	}
	text := strings.Repeat("keep\nopposite\n", 20)
	if got := impl.Console(text); strings.Count(got, "\n") != 40 || !strings.HasSuffix(got, "20\n"+toldSpinor(up)+"\n") {
		t.Errorf("Console(%q) = %q", text, got)
	}
	d, ok := impl.DeskAfter(text)
	want := slices.Repeat([]impl.Spinor{up, down, {-1, 0}, {0, -1}}, 5)
	if !ok || !sameDesk(d, withPolygon(startDesk, want...)) {
		t.Errorf("DeskAfter(%q) = %v, %v", text, d, ok)
	}
}

func TestRefine(t *testing.T) {
	for n := range 25 {
		d := withPolygon(busyDesk(), repeatedSpinor(up, n)...)
		if n >= 1 && n <= 12 {
			wantLine(t, d, "refine", withPolygon(d, repeatedSpinor(up, 2*n)...), strconv.Itoa(2*n))
		} else {
			wantWrong(t, d, "refine")
		}
	}
	d := withPolygon(busyDesk(), up, impl.Spinor{2i, 0})
	wantLine(t, d, "refine", withPolygon(d, up, up, impl.Spinor{2i, 0}, impl.Spinor{i64, 0}), "4")
}

func TestPhasesOfPolygonsOfAllLengths(t *testing.T) {
	for _, command := range []string{"phase", "closing"} {
		wantWrong(t, startDesk, command)
		wantWrong(t, withPolygon(busyDesk()), command)
		for n := 1; n <= 24; n++ {
			d := withPolygon(busyDesk(), repeatedSpinor(impl.Spinor{0, i64}, n)...)
			wantLine(t, d, command, d, "3f800000,0")
		}
		one := withPolygon(busyDesk(), impl.Spinor{1, complex(1, 1)})
		wantLine(t, one, command, one, "3f800000,0")
	}
}
