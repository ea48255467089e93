package tests

import (
	"slices"
	"testing"

	"loop.example/g01214/impl"
)

// desks are of all kinds, with lists of all lengths.
func (s *sampler) desks() []impl.Desk {
	list := []impl.Desk{startDesk, busyDesk(), {}, {First: most, Second: most, Table: impl.Turn{most, most}, Polygon: repeatedSpinor(most, 24)}}
	for n := range 25 {
		both := s.polygon(2)
		d := impl.Desk{First: both[0], Second: both[1], Table: s.anyTables(1)[0], Polygon: s.polygon(n)}
		list = append(list, d, withPolygon(startDesk, repeatedSpinor(up, n)...))
	}
	for i, v := range goodSpinors() {
		a := goodTables()[i]
		list = append(list, impl.Desk{First: v}, impl.Desk{Second: v}, impl.Desk{Polygon: []impl.Spinor{up, v}}, impl.Desk{Table: a})
	}
	return list
}

// noDesks are none because of one of their parts, or of several.
func noDesks() []impl.Desk {
	d := busyDesk()
	var list []impl.Desk
	for _, bad := range badSpinors() {
		list = append(list, withFirst(d, bad), withSpinors(d, d.First, bad), withSpinors(impl.Desk{}, bad, bad))
		for _, n := range []int{1, 2, 24, 25} {
			for _, i := range []int{0, n / 2, n - 1} {
				corners := repeatedSpinor(up, n)
				corners[i] = bad
				list = append(list, withPolygon(d, corners...))
			}
		}
	}
	for _, bad := range badTables() {
		list = append(list, withTable(d, bad))
	}
	for _, n := range []int{25, 26, 48, 256, 257, 1000} {
		for _, s := range []impl.Spinor{{}, up, most} {
			list = append(list, withPolygon(d, repeatedSpinor(s, n)...))
		}
	}
	return list
}

func TestIsDesk(t *testing.T) {
	s := &sampler{state: 201}
	for _, d := range s.desks() {
		if !impl.IsDesk(d) {
			t.Errorf("IsDesk(%v) is false", d)
		}
	}
	for _, d := range noDesks() {
		if impl.IsDesk(d) {
			t.Errorf("IsDesk(%v) is true", d)
		}
	}
}

func TestRunLineRefusesWhatIsNoDesk(t *testing.T) {
	lines := slices.Concat(allLines(), []string{"", " ", "fly", "reset ", "sequence ", "up 301", "first 0,0"})
	for _, d := range noDesks() {
		for _, line := range lines {
			next, output := impl.RunLine(d, line)
			if output != "" || !sameDesk(next, impl.Desk{}) {
				t.Fatalf("RunLine(%v, %q) = %v, %q", d, line, next, output)
			}
		}
	}
}

// someLines has right and wrong lines.
func someLines() []string {
	return slices.Concat(allLines(), []string{"", "fly", "keep ", "clear 1", "up 301", "down 300", "turn 0 25", "sequence ", "first 0,0", "refine 2"})
}

// spare returns a desk whose list is cut out of a longer one, and the longer one.
func spare(d impl.Desk, from, to int) (impl.Desk, []impl.Spinor) {
	whole := slices.Repeat([]impl.Spinor{up, {1, 1}, {1, i64}}, 10)
	d.Polygon = whole[from:to]
	return d, whole
}

var cuts = [][2]int{{0, 0}, {5, 5}, {30, 30}, {0, 1}, {0, 3}, {4, 9}, {29, 30}, {6, 18}, {0, 12}, {1, 24}, {0, 24}, {6, 30}}

// A desk that is given is not changed, nor is what is before or behind its list, even if the desk
// that is returned is spoiled.
func TestDesksStayAsTheyAre(t *testing.T) {
	for _, cut := range cuts {
		for _, line := range someLines() {
			d, whole := spare(busyDesk(), cut[0], cut[1])
			before, copied := slices.Clone(whole), copyOfDesk(d)
			next, _ := impl.RunLine(d, line)
			if !sameDesk(d, copied) || !slices.Equal(whole, before) {
				t.Fatalf("%q changed %v to %v", line, copied, d)
			}
			overwrite(next.Polygon)
			if !sameDesk(d, copied) || !slices.Equal(whole, before) {
				t.Fatalf("%q returned memory of %v", line, copied)
			}
		}
	}
}

// A desk that is returned does not change with the one that was given.
func TestDesksThatAreReturnedAreNew(t *testing.T) {
	for _, cut := range cuts {
		for _, line := range someLines() {
			d, whole := spare(busyDesk(), cut[0], cut[1])
			next, output := impl.RunLine(d, line)
			before := copyOfDesk(next)
			overwrite(whole)
			if !sameDesk(next, before) {
				t.Fatalf("%q: %v became %v", line, before, next)
			}
			d, _ = spare(busyDesk(), cut[0], cut[1])
			wantLine(t, d, line, before, output)
		}
	}
}

// Nothing is kept between calls, even if their results are spoiled.
func TestNoDeskIsKept(t *testing.T) {
	text := "keep\nswap\nkeep\nsequence y1\napply\nkeep"
	want := "1\n" + toldSpinor(down) + "\n2\n"
	first, ok := impl.DeskAfter(text)
	copied := copyOfDesk(first)
	for range 3 {
		overwrite(first.Polygon)
		again, okAgain := impl.DeskAfter(text)
		if !ok || !okAgain || !sameDesk(again, copied) || len(again.Polygon) != 3 {
			t.Fatalf("DeskAfter(%q) = %v, %v, and before %v, %v", text, again, okAgain, copied, ok)
		}
		if got := impl.Console(text); len(got) < len(want) || got[:len(want)] != want {
			t.Fatalf("Console(%q) = %q", text, got)
		}
		d := impl.NewDesk()
		if !sameDesk(d, startDesk) {
			t.Fatalf("NewDesk() = %v", d)
		}
		d.First, d.Table, d.Polygon = most, impl.Turn{}, append(d.Polygon, most)
		first = again
	}
}
