package tests

import (
	"math"
	"slices"
	"testing"

	"loop.example/g01214/impl"
)

func TestTableOfSequence(t *testing.T) {
	half := complex(at(0x3f3504f3), 0)
	cases := []struct {
		text string
		want impl.Turn
	}{
		{"", unit},
		{"x0", impl.Turn{{0, -i64}, {-i64, 0}}},
		{"-x0", impl.Turn{{0, i64}, {i64, 0}}},
		{"y0", impl.Turn{{0, -1}, {1, 0}}},
		{"-y0", impl.Turn{{0, 1}, {-1, 0}}},
		{"z0", impl.Turn{{-i64, 0}, {0, i64}}},
		{"-z0", impl.Turn{{i64, 0}, {0, -i64}}},
		{"x1", impl.Turn{{half, -i64 * half}, {-i64 * half, half}}},
		{"-y1", impl.Turn{{half, half}, {-half, half}}},
		// The later pulse stands on the left.
		{"x0 y0", impl.Turn{{i64, 0}, {0, -i64}}},
		{"y0 x0", impl.Turn{{-i64, 0}, {0, i64}}},
		{"x0 x0", negative(unit)},
		{"x0 y0 z0", unit},
		{"z0 y0 x0", negative(unit)},
		{"x0 -y0 z0 -z0 y0 -x0", unit},
		{"z0 y1", impl.Turn{{-i64 * half, -i64 * half}, {-i64 * half, i64 * half}}},
		{"y1 z0", impl.Turn{{-i64 * half, i64 * half}, {i64 * half, i64 * half}}},
	}
	for _, c := range cases {
		table, code := impl.TableOfSequence(parsed(t, c.text))
		wantValue(t, "TableOfSequence of "+c.text, table, code, c.want)
	}
}

func TestTableOfOnePulse(t *testing.T) {
	for axis := range int64(3) {
		for k := range int64(25) {
			for _, turned := range []bool{false, true} {
				p := impl.Pulse{Axis: axis, Halvings: k, Back: turned}
				table, code := impl.TableOfSequence([]impl.Pulse{p})
				wantValue(t, "TableOfSequence", table, code, tableFor(p))
			}
		}
	}
}

// longSequences has some sequences of each length that a test by exact numbers has time for.
func longSequences(s *sampler) [][]impl.Pulse {
	list := [][]impl.Pulse{nil, slices.Repeat([]impl.Pulse{x1}, 60), slices.Repeat([]impl.Pulse{lastPulse}, 60), slices.Repeat([]impl.Pulse{x2, y1}, 30)}
	for n := range 13 {
		for range 4 {
			list = append(list, s.sequence(n), s.alike(n))
		}
	}
	return append(list, s.sequence(30), s.alike(45), s.sequence(59), s.sequence(60), s.alike(60))
}

func TestTableOfSequenceExactly(t *testing.T) {
	s := &sampler{state: 86}
	for _, list := range longSequences(s) {
		r := &reckoner{}
		want := r.tablesFor(list, 0)
		table, code := impl.TableOfSequence(list)
		wantReckoned(t, r, "TableOfSequence of "+textFor(list), table, code, want[len(list)])
	}
}

// Promise 16: the table of a sequence is the product of those of its pulses.
func TestTablesOfSequencesAreProducts(t *testing.T) {
	for _, list := range goodSequences() {
		product := unit
		for _, p := range list {
			one, codeOne := impl.TableOfSequence([]impl.Pulse{p})
			next, code := impl.MultiplyTurns(one, product)
			if codeOne != impl.ErrNone || code != impl.ErrNone {
				t.Errorf("of %v: the codes %d and %d", p, codeOne, code)
			}
			product = next
		}
		table, code := impl.TableOfSequence(list)
		wantValue(t, "TableOfSequence of "+textFor(list), table, code, product)
	}
}

// Promise 16, with the tables of pulses as chapter 3 finds them.
func TestTablesOfSequencesByHalvedTurns(t *testing.T) {
	for _, list := range goodSequences() {
		product := unit
		for _, p := range list {
			one, code := impl.HalvedTurn(p.Axis, p.Halvings)
			if p.Back {
				one, code = impl.AdjointOf(one)
			}
			next, codeNext := impl.MultiplyTurns(one, product)
			if code != impl.ErrNone || codeNext != impl.ErrNone {
				t.Errorf("of %v: the codes %d and %d", p, code, codeNext)
			}
			product = next
		}
		table, code := impl.TableOfSequence(list)
		wantValue(t, "TableOfSequence of "+textFor(list), table, code, product)
	}
}

// The order of the products and the places of the renewals can be told from the last bits.
func TestRenewedTableExactly(t *testing.T) {
	s := &sampler{state: 87}
	differ := 0
	for _, list := range longSequences(s) {
		plain, _ := impl.TableOfSequence(list)
		for _, m := range []int{1, 2, 3, 7, len(list) - 1, len(list), len(list) + 1} {
			if m < 1 {
				continue
			}
			r := &reckoner{}
			want := r.tablesFor(list, m)
			table, code := impl.RenewedTable(list, int64(m))
			wantReckoned(t, r, "RenewedTable of "+textFor(list), table, code, want[len(list)])
			if table != plain {
				differ++
			}
		}
	}
	if differ < 100 {
		t.Errorf("only %d renewed tables differ", differ)
	}
}

func TestRenewedTableByHand(t *testing.T) {
	list := parsed(t, "x3 y2 -z4 x1 y5 -x2 z3")
	for m := int64(1); m <= 8; m++ {
		want := unit
		for i, p := range list {
			want, _ = impl.MultiplyTurns(tableFor(p), want)
			if int64(i+1)%m == 0 {
				want, _ = impl.RenewTurn(want)
			}
		}
		table, code := impl.RenewedTable(list, m)
		wantValue(t, "RenewedTable", table, code, want)
	}
}

func TestRenewedTableBehindMorePulses(t *testing.T) {
	for _, list := range goodSequences() {
		plain, _ := impl.TableOfSequence(list)
		for _, m := range []int64{int64(len(list)) + 1, 61, 1 << 32, 1<<32 + 1, math.MaxInt64} {
			table, code := impl.RenewedTable(list, m)
			wantValue(t, "RenewedTable", table, code, plain)
		}
	}
}

func TestRenewedTableBeyondTheLimit(t *testing.T) {
	for _, list := range goodSequences() {
		for _, m := range []int64{0, -1, -2, -61, math.MinInt64, -1 << 32} {
			table, code := impl.RenewedTable(list, m)
			wantNone(t, "RenewedTable", table, code, impl.ErrRange)
		}
	}
}

func TestDriftsOf(t *testing.T) {
	drifts, code := impl.DriftsOf(nil)
	wantList(t, "DriftsOf", drifts, code, []float32{0})
	drifts, code = impl.DriftsOf(parsed(t, "x0 -y0 z0"))
	wantList(t, "DriftsOf", drifts, code, []float32{0, 0, 0, 0})
	// Two squares of the number next to the root of 1/2 are a little less than 1 together.
	drifts, code = impl.DriftsOf(parsed(t, "x1"))
	wantList(t, "DriftsOf", drifts, code, []float32{0, power(-24)})
}

func TestDriftsOfExactly(t *testing.T) {
	s := &sampler{state: 88}
	several := 0
	for _, list := range longSequences(s) {
		r := &reckoner{}
		var want []float32
		for _, table := range r.tablesFor(list, 0) {
			want = append(want, r.drift(table))
		}
		drifts, code := impl.DriftsOf(list)
		wantList(t, "DriftsOf "+textFor(list), drifts, code, want)
		if r.failed {
			t.Errorf("what is not finite came up")
		}
		slices.Sort(want)
		if len(slices.Compact(want)) > 2 {
			several++
		}
	}
	if several < 20 {
		t.Errorf("only %d lists of drifts say something", several)
	}
}

func TestDriftsOfBeginnings(t *testing.T) {
	for _, list := range goodSequences() {
		var want []float32
		for n := range len(list) + 1 {
			table, _ := impl.TableOfSequence(list[:n])
			drift, _ := impl.DriftOfTurn(table)
			want = append(want, drift)
		}
		drifts, code := impl.DriftsOf(list)
		wantList(t, "DriftsOf", drifts, code, want)
	}
}
