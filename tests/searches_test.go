package tests

import (
	"math"
	"slices"
	"testing"

	"loop.example/g01214/impl"
)

func TestTableDistance(t *testing.T) {
	cases := []struct {
		a, b impl.Turn
		want float32
	}{
		{unit, unit, 0},
		{impl.Turn{}, impl.Turn{{minusPair, minusPair}, {minusPair, minusPair}}, 0},
		{unit, negative(unit), 2},
		{unit, impl.Turn{}, 1},
		{impl.Turn{{1, 2}, {3, 4}}, impl.Turn{{1, 2}, {3, complex(4, 7)}}, 7},
		{impl.Turn{{complex(1, -2), 0}, {0, 0}}, impl.Turn{{complex(0, 3), 0}, {0, 0}}, 5},
		// The parts count, not the absolute values of the differences.
		{impl.Turn{{complex(3, 4), 0}, {0, 0}}, impl.Turn{}, 4},
		{impl.Turn{{1, complex(at(0x3f800001), 0)}, {0, 0}}, impl.Turn{{1, 1}, {0, 0}}, power(-23)},
		{impl.Turn{{1 << 24, 0}, {0, 0}}, impl.Turn{{-1, 0}, {0, 0}}, 1 << 24},
		{impl.Turn{{1 << 24, 0}, {0, 0}}, impl.Turn{{-3, 0}, {0, 0}}, 1<<24 + 4},
		{tableWith(0, greatest, 0), tableWith(0, -power(102), 0), greatest},
	}
	for _, c := range cases {
		for _, pair := range [][2]impl.Turn{{c.a, c.b}, {c.b, c.a}} {
			distance, code := impl.TableDistance(pair[0], pair[1])
			wantValue(t, "TableDistance", distance, code, c.want)
		}
	}
}

func TestTableDistanceOfEachPart(t *testing.T) {
	for part := range 8 {
		for _, x := range []float32{at(1), 1, -1, 3, -5, greatest, -greatest} {
			for _, rest := range []float32{0, minusZero, 1.5} {
				a, b := tableWith(part, x, rest), tableWith(part, 0, rest)
				distance, code := impl.TableDistance(a, b)
				wantValue(t, "TableDistance", distance, code, float32(math.Abs(float64(x))))
				distance, code = impl.TableDistance(b, a)
				wantValue(t, "TableDistance", distance, code, float32(math.Abs(float64(x))))
			}
		}
	}
}

func TestTableDistanceErrors(t *testing.T) {
	for part := range 8 {
		for _, y := range []float32{-greatest, -power(127), -power(103)} {
			for _, sign := range []float32{1, -1} {
				a, b := tableWith(part, sign*greatest, 1), tableWith(part, sign*y, 1)
				distance, code := impl.TableDistance(a, b)
				wantNone(t, "TableDistance", distance, code, impl.ErrLimit)
				distance, code = impl.TableDistance(b, a)
				wantNone(t, "TableDistance", distance, code, impl.ErrLimit)
			}
		}
	}
	for _, bad := range badTables() {
		for _, other := range []impl.Turn{{}, unit, tableWith(0, -greatest, -greatest), bad} {
			distance, code := impl.TableDistance(bad, other)
			wantNone(t, "TableDistance", distance, code, impl.ErrInvalid)
			distance, code = impl.TableDistance(other, bad)
			wantNone(t, "TableDistance", distance, code, impl.ErrInvalid)
		}
	}
}

func TestTableDistanceExactly(t *testing.T) {
	s := &sampler{state: 91}
	for range samples / 2 {
		a, r := s.anyTables(2), &reckoner{}
		want := r.distance(a[0], a[1])
		distance, code := impl.TableDistance(a[0], a[1])
		wantReckoned(t, r, "TableDistance", distance, code, want)
	}
}

// searched has all sequences of at most 4 pulses with k halvings, in the order of the search, with
// the tables that the program finds.
func searched(k int64) []tried {
	all := searchOrder(4)
	for i := range all {
		for j := range all[i].list {
			all[i].list[j].Halvings = k
		}
		all[i].table, _ = impl.TableOfSequence(all[i].list)
	}
	return all
}

// searchOrder puts the six pulses behind the sequences with one pulse less.
func searchOrder(m int) []tried {
	pulses := []impl.Pulse{x0, back(x0), y0, back(y0), z0, back(z0)}
	all := []tried{{}}
	for first := 0; len(all[first].list) < m; first++ {
		for _, p := range pulses {
			all = append(all, tried{list: slices.Concat(all[first].list, []impl.Pulse{p})})
		}
	}
	return all
}

// wantedSearch returns the first sequence that is near enough, or one with a bad pulse for none.
func wantedSearch(a impl.Turn, all []tried, m int, d float32) []impl.Pulse {
	for _, one := range all {
		distance, code := impl.TableDistance(one.table, a)
		if len(one.list) <= m && code == impl.ErrNone && distance <= d {
			return one.list
		}
	}
	return []impl.Pulse{{Axis: -1}}
}

func wantSearch(t *testing.T, a impl.Turn, k int64, m int64, d float32, want []impl.Pulse) {
	t.Helper()
	list, code := impl.FindSequence(a, k, m, d)
	if slices.Equal(want, []impl.Pulse{{Axis: -1}}) {
		wantNoList(t, "FindSequence", list, code, impl.ErrNotFound)
	} else {
		wantList(t, "FindSequence", list, code, want)
	}
}

func TestFindSequence(t *testing.T) {
	cases := []struct {
		target string
		k, m   int64
		want   string
	}{
		{"", 0, 0, ""},
		{"", 24, 4, ""},
		{"x0 x0 x0 x0", 0, 4, ""},
		{"x0 y0", 0, 2, "-z0"},
		{"x0 y0", 0, 1, "-z0"},
		{"z0", 0, 4, "z0"},
		{"-z0", 0, 4, "-z0"},
		{"-z0", 0, 1, "-z0"},
		// Several hits: of -1, -x0 -x0 and y0 y0 come behind, of x0 those with three pulses.
		{"z0 z0", 0, 2, "x0 x0"},
		{"-y0 -y0", 0, 4, "x0 x0"},
		{"-z0 -y0", 0, 2, "x0"},
		{"x1 y1", 1, 2, "x1 y1"},
		{"y1 x1", 1, 2, "x1 z1"},
		// The table of -y1 alone is the same but for roundings.
		{"-x1 -y1 z1", 1, 4, "x1 -x1 -y1"},
		{"x3 y3 -z3 -x3", 3, 4, "x3 y3 -z3 -x3"},
		{"-z24", 24, 1, "-z24"},
	}
	for _, c := range cases {
		target, _ := impl.TableOfSequence(parsed(t, c.target))
		list, code := impl.FindSequence(target, c.k, c.m, 0)
		wantList(t, "FindSequence of "+c.target, list, code, parsed(t, c.want))
	}
}

func TestFindSequenceFindsNothing(t *testing.T) {
	for _, c := range []struct {
		target string
		k, m   int64
		d      float32
	}{
		{"x0", 0, 0, 0}, {"x0", 0, 0, 0.5}, {"x0 x0", 0, 1, 0}, {"x0 x0", 0, 1, at(0x3f7fffff)}, {"x1", 0, 4, 0}, {"x1", 2, 1, 0},
		{"x3 y3 z3", 3, 2, 0}, {"x3 y3 z3 x3 y3", 3, 4, 0}, {"x0", 24, 4, 0.5}, {"-x2 -y2 -z2 -x2", 2, 3, minusZero},
	} {
		target, _ := impl.TableOfSequence(parsed(t, c.target))
		list, code := impl.FindSequence(target, c.k, c.m, c.d)
		wantNoList(t, "FindSequence of "+c.target, list, code, impl.ErrNotFound)
	}
	for k := range int64(25) {
		for m := range int64(5) {
			list, code := impl.FindSequence(impl.Turn{}, k, m, 0)
			wantNoList(t, "FindSequence", list, code, impl.ErrNotFound)
		}
	}
}

// A distance that equals d is near enough, one that is greater by one place is not.
func TestFindSequenceAtTheDistance(t *testing.T) {
	for _, a := range []impl.Turn{{}, negative(unit), {{1, 2}, {3, 4}}, {{complex(1, 1), complex(at(1), 0)}, {0, 1}}, {{1, 0}, {0, complex(1, -9)}}, tableWith(5, 8, 0)} {
		distance, code := impl.TableDistance(unit, a)
		if code != impl.ErrNone {
			t.Errorf("TableDistance: the code %d", code)
		}
		wantSearch(t, a, 0, 0, distance, nil)
		wantSearch(t, a, 7, 4, distance, nil)
		wantSearch(t, a, 0, 0, math.Nextafter32(distance, 0), []impl.Pulse{{Axis: -1}})
		wantSearch(t, a, 0, 0, math.Nextafter32(distance, greatest), nil)
	}
	wantSearch(t, unit, 0, 0, 0, nil)
	wantSearch(t, unit, 0, 0, minusZero, nil)
	wantSearch(t, unit, 0, 0, greatest, nil)
}

// Each of the eight parts of a table can be the one that is too far away.
func TestFindSequenceLooksAtEachPart(t *testing.T) {
	for part := range 8 {
		for _, x := range []float32{0.25, -0.25, greatest, -greatest} {
			a := unit
			row, add := part/4, complex64(complex(x, 0))
			if part%2 == 1 {
				add = complex(0, x)
			}
			a[row][part%4/2] += add
			wantSearch(t, a, 0, 4, 0.125, []impl.Pulse{{Axis: -1}})
			distance, code := impl.TableDistance(unit, a)
			wantNumber(t, "TableDistance", distance, code, float32(math.Abs(float64(x))))
			wantSearch(t, a, 0, 4, distance, nil)
		}
	}
}

func TestFindSequenceErrors(t *testing.T) {
	far := []int64{-1, math.MinInt64, math.MaxInt64, 1 << 32, -1 << 32}
	farHalvings, farPulses := append(slices.Clone(far), 25), append(slices.Clone(far), 5)
	for _, bad := range badTables() {
		for _, d := range []float32{0, 1, -1, greatest, badParts[0]} {
			for _, k := range []int64{0, 24, 25, -1} {
				for _, m := range []int64{0, 4, 5, -1} {
					list, code := impl.FindSequence(bad, k, m, d)
					wantNoList(t, "FindSequence", list, code, impl.ErrInvalid)
				}
			}
		}
	}
	for _, a := range []impl.Turn{unit, {}, tableWith(0, greatest, greatest)} {
		for _, d := range badParts {
			for _, k := range append(farHalvings, 0, 24) {
				for _, m := range append(farPulses, 0, 4) {
					list, code := impl.FindSequence(a, k, m, d)
					wantNoList(t, "FindSequence", list, code, impl.ErrInvalid)
				}
			}
		}
		for _, d := range []float32{0, 1, greatest} {
			for _, k := range farHalvings {
				list, code := impl.FindSequence(a, k, 1, d)
				wantNoList(t, "FindSequence", list, code, impl.ErrRange)
			}
			for _, m := range farPulses {
				list, code := impl.FindSequence(a, 0, m, d)
				wantNoList(t, "FindSequence", list, code, impl.ErrRange)
			}
		}
		for _, d := range []float32{-at(1), -1, -greatest} {
			for _, m := range []int64{0, 4, 5, -1} {
				list, code := impl.FindSequence(a, 0, m, d)
				wantNoList(t, "FindSequence", list, code, impl.ErrRange)
			}
		}
	}
}

// Differences from the greatest numbers are still numbers, so that the search goes on.
func TestFindSequenceOfTheGreatestNumbers(t *testing.T) {
	for part := range 8 {
		for _, x := range []float32{greatest, -greatest} {
			a := tableWith(part, x, -x)
			wantSearch(t, a, 0, 4, math.Nextafter32(greatest, 0), []impl.Pulse{{Axis: -1}})
			wantSearch(t, a, 1, 4, 2, []impl.Pulse{{Axis: -1}})
			wantSearch(t, a, 1, 4, greatest, nil)
		}
	}
}

// The table of each sequence of at most 3 pulses is looked for, the tables being found exactly.
func TestFindSequenceExactly(t *testing.T) {
	r := &reckoner{}
	all := r.triedFor(2, 3)
	if len(all) != 1+6+36+216 || r.failed {
		t.Fatalf("%d sequences, %v", len(all), r.failed)
	}
	for i, one := range all {
		first := slices.IndexFunc(all, func(other tried) bool { return other.table == one.table })
		wantSearch(t, one.table, 2, 3, 0, all[first].list)
		if i%20 == 0 && first == i && len(one.list) > 0 {
			wantSearch(t, one.table, 2, int64(len(one.list))-1, 0, []impl.Pulse{{Axis: -1}})
		}
	}
}

func TestFindSequenceOfAnyTable(t *testing.T) {
	s := &sampler{state: 92}
	lengths := map[int]int{}
	for k := range int64(25) {
		all := searched(k)
		for range 40 {
			a, m := s.turning(), s.next(5)
			if s.next(2) == 0 {
				a = all[s.next(int64(len(all)))].table
			}
			d := float32(s.next(100)) / 100
			if s.next(3) == 0 {
				d = float32(s.next(3)) * power(-24)
			}
			want := wantedSearch(a, all, int(m), d)
			wantSearch(t, a, k, m, d, want)
			if len(want) == 1 && want[0].Axis < 0 {
				lengths[-1]++
			} else {
				lengths[len(want)]++
			}
		}
	}
	for n := -1; n <= 4; n++ {
		if lengths[n] < 10 {
			t.Errorf("only %d searches end with %d pulses", lengths[n], n)
		}
	}
}

// The nearest of all tables is found with its distance, and none with the next smaller one.
func TestFindSequenceOfTheNearestTable(t *testing.T) {
	s := &sampler{state: 93}
	for _, k := range []int64{0, 1, 2, 5, 12, 24} {
		all := searched(k)
		for range 10 {
			a, least := s.turning(), float32(greatest)
			for _, one := range all {
				distance, _ := impl.TableDistance(a, one.table)
				least = min(least, distance)
			}
			wantSearch(t, a, k, 4, least, wantedSearch(a, all, 4, least))
			wantSearch(t, a, k, 4, math.Nextafter32(least, 0), []impl.Pulse{{Axis: -1}})
		}
	}
}
