package tests

import (
	"math"
	"slices"
	"testing"

	"loop.example/g01214/impl"
)

var (
	x0 = impl.Pulse{}
	y0 = impl.Pulse{Axis: 1}
	z0 = impl.Pulse{Axis: 2}
	x1 = impl.Pulse{Halvings: 1}
	x2 = impl.Pulse{Halvings: 2}
	y1 = impl.Pulse{Axis: 1, Halvings: 1}
	z1 = impl.Pulse{Axis: 2, Halvings: 1}
)

func back(p impl.Pulse) impl.Pulse {
	return impl.Pulse{Axis: p.Axis, Halvings: p.Halvings, Back: true}
}

// lastPulse is at both limits.
var lastPulse = impl.Pulse{Axis: 2, Halvings: 24, Back: true}

// badPulses are beyond a limit, or beyond both.
func badPulses() []impl.Pulse {
	beyond := []int64{-1, math.MinInt64, math.MaxInt64, 1 << 32, -1 << 32, 1<<32 + 1}
	var list []impl.Pulse
	for _, turned := range []bool{false, true} {
		for _, x := range append(beyond, 3) {
			list = append(list, impl.Pulse{Axis: x, Back: turned}, impl.Pulse{Axis: x, Halvings: 24, Back: turned})
		}
		for _, x := range append(beyond, 25) {
			list = append(list, impl.Pulse{Halvings: x, Back: turned}, impl.Pulse{Axis: 2, Halvings: x, Back: turned})
			list = append(list, impl.Pulse{Axis: x, Halvings: x, Back: turned})
		}
	}
	return list
}

// badSequences have a bad pulse at one place, or are too long, or both.
func badSequences() [][]impl.Pulse {
	var list [][]impl.Pulse
	for _, bad := range badPulses() {
		for _, n := range []int{1, 2, 3, 29, 30, 60, 61} {
			for _, i := range []int{0, n / 2, n - 1} {
				pulses := slices.Repeat([]impl.Pulse{x1}, n)
				pulses[i] = bad
				list = append(list, pulses)
			}
		}
		list = append(list, []impl.Pulse{bad, bad})
	}
	for _, n := range []int{61, 62, 120, 1000} {
		list = append(list, slices.Repeat([]impl.Pulse{x0}, n), slices.Repeat([]impl.Pulse{x1, back(x1)}, n)[:n])
		list = append(list, slices.Repeat([]impl.Pulse{lastPulse}, n))
	}
	return list
}

// goodSequences has sequences of all lengths, some of pulses at the limits.
func goodSequences() [][]impl.Pulse {
	s := &sampler{state: 80}
	list := [][]impl.Pulse{nil, {}, {lastPulse}, {x0, y0, z0}, {back(x0), {Halvings: 24}, {Axis: 2}}}
	for n := range 61 {
		list = append(list, s.sequence(n), s.alike(n), slices.Repeat([]impl.Pulse{lastPulse}, n), slices.Repeat([]impl.Pulse{x0}, n))
	}
	return list
}

func wantList[T comparable](t *testing.T, what string, got []T, code int64, want []T) {
	t.Helper()
	if !slices.Equal(got, want) || code != impl.ErrNone {
		t.Errorf("%s = %v, %d, want %v", what, got, code, want)
	}
}

func wantNoList[T any](t *testing.T, what string, got []T, code int64, want int64) {
	t.Helper()
	if len(got) != 0 || code != want {
		t.Errorf("%s = %v, %d, want the code %d", what, got, code, want)
	}
}

func TestIsSequence(t *testing.T) {
	if impl.MaxPulses != 60 || impl.MaxSearch != 4 {
		t.Errorf("MaxPulses = %d, MaxSearch = %d", impl.MaxPulses, impl.MaxSearch)
	}
	for _, list := range goodSequences() {
		if !impl.IsSequence(list) {
			t.Errorf("IsSequence(%v) is false", list)
		}
	}
	for _, list := range badSequences() {
		if impl.IsSequence(list) {
			t.Errorf("IsSequence(%v) is true", list)
		}
	}
}

func TestFunctionsRefuseWhatIsNoSequence(t *testing.T) {
	for _, bad := range badSequences() {
		text, code := impl.SequenceText(bad)
		wantNone(t, "SequenceText", text, code, impl.ErrInvalid)
		table, code := impl.TableOfSequence(bad)
		wantNone(t, "TableOfSequence", table, code, impl.ErrInvalid)
		for _, m := range []int64{1, 2, 61, math.MaxInt64, 0, -1, math.MinInt64} {
			table, code := impl.RenewedTable(bad, m)
			wantNone(t, "RenewedTable", table, code, impl.ErrInvalid)
		}
		for _, s := range []impl.Spinor{{}, {1, i64}, {greatest, greatest}, badSpinors()[0]} {
			run, code := impl.RunSequence(bad, s)
			wantNoList(t, "RunSequence", run, code, impl.ErrInvalid)
		}
		inverse, code := impl.InverseSequence(bad)
		wantNoList(t, "InverseSequence", inverse, code, impl.ErrInvalid)
		echo, code := impl.EchoOf(bad)
		wantNoList(t, "EchoOf", echo, code, impl.ErrInvalid)
		shortened, code := impl.ShortenSequence(bad)
		wantNoList(t, "ShortenSequence", shortened, code, impl.ErrInvalid)
		angles, code := impl.AnglesOf(bad)
		wantNoList(t, "AnglesOf", angles, code, impl.ErrInvalid)
		drifts, code := impl.DriftsOf(bad)
		wantNoList(t, "DriftsOf", drifts, code, impl.ErrInvalid)
	}
}

func TestInverseSequence(t *testing.T) {
	inverse, code := impl.InverseSequence(nil)
	wantList(t, "InverseSequence", inverse, code, nil)
	inverse, code = impl.InverseSequence([]impl.Pulse{x2, back(y0), z1})
	wantList(t, "InverseSequence", inverse, code, []impl.Pulse{back(z1), y0, back(x2)})
	inverse, code = impl.InverseSequence([]impl.Pulse{lastPulse})
	wantList(t, "InverseSequence", inverse, code, []impl.Pulse{{Axis: 2, Halvings: 24}})
	for _, list := range goodSequences() {
		var want []impl.Pulse
		for i := len(list) - 1; i >= 0; i-- {
			want = append(want, impl.Pulse{Axis: list[i].Axis, Halvings: list[i].Halvings, Back: !list[i].Back})
		}
		inverse, code := impl.InverseSequence(list)
		wantList(t, "InverseSequence", inverse, code, want)
		twice, code := impl.InverseSequence(inverse)
		wantList(t, "InverseSequence, twice,", twice, code, list)
	}
}

// The angles of a sequence with its inverse behind it are 0.
func TestInversesTakeAnglesBack(t *testing.T) {
	for _, list := range goodSequences() {
		inverse, _ := impl.InverseSequence(list)
		whole := slices.Concat(list, inverse)
		if len(whole) > 60 {
			continue
		}
		angles, code := impl.AnglesOf(whole)
		wantList(t, "AnglesOf", angles, code, []int64{0, 0, 0})
	}
}

func TestEchoOf(t *testing.T) {
	echo, code := impl.EchoOf(nil)
	wantList(t, "EchoOf", echo, code, []impl.Pulse{x0, x0})
	echo, code = impl.EchoOf([]impl.Pulse{x2, back(y0)})
	wantList(t, "EchoOf", echo, code, []impl.Pulse{x2, back(y0), x0, x2, back(y0), x0})
	for _, list := range goodSequences() {
		echo, code := impl.EchoOf(list)
		if len(list) > 29 {
			wantNoList(t, "EchoOf", echo, code, impl.ErrLimit)
			continue
		}
		want := slices.Concat(list, []impl.Pulse{{}}, list, []impl.Pulse{{}})
		wantList(t, "EchoOf", echo, code, want)
		if !impl.IsSequence(echo) {
			t.Errorf("the echo of %d pulses is no sequence", len(list))
		}
	}
}

func TestEchoesOf29And30Pulses(t *testing.T) {
	s := &sampler{state: 81}
	echo, code := impl.EchoOf(s.sequence(29))
	if len(echo) != 60 || code != impl.ErrNone {
		t.Errorf("of 29 pulses: %v, %d", echo, code)
	}
	for _, n := range []int{30, 31, 59, 60} {
		echo, code := impl.EchoOf(s.sequence(n))
		wantNoList(t, "EchoOf", echo, code, impl.ErrLimit)
	}
	echo, code = impl.EchoOf(s.sequence(61))
	wantNoList(t, "EchoOf", echo, code, impl.ErrInvalid)
}

func TestAnglesOf(t *testing.T) {
	cases := []struct {
		list []impl.Pulse
		want []int64
	}{
		{nil, []int64{0, 0, 0}},
		{[]impl.Pulse{x2, back(y0)}, []int64{1 << 22, -1 << 24, 0}},
		{[]impl.Pulse{{Halvings: 24}, {Axis: 1, Halvings: 23}, lastPulse}, []int64{1, 2, -1}},
		{[]impl.Pulse{x1, y0, back(x1), y0}, []int64{0, 1 << 25, 0}},
		{slices.Repeat([]impl.Pulse{z0}, 60), []int64{0, 0, 60 << 24}},
		{slices.Repeat([]impl.Pulse{back(x0)}, 60), []int64{-60 << 24, 0, 0}},
		{slices.Repeat([]impl.Pulse{lastPulse}, 60), []int64{0, 0, -60}},
	}
	for _, c := range cases {
		angles, code := impl.AnglesOf(c.list)
		wantList(t, "AnglesOf", angles, code, c.want)
	}
	for _, list := range goodSequences() {
		angles, code := impl.AnglesOf(list)
		wantList(t, "AnglesOf", angles, code, anglesFor(list))
	}
}

// spoil overwrites a result and the spare capacity behind it.
func spoil(list []impl.Pulse) {
	list = list[:cap(list)]
	for i := range list {
		list[i] = impl.Pulse{Axis: 77}
	}
}

func TestSequencesStayAsTheyAre(t *testing.T) {
	s := &sampler{state: 82}
	for range 200 {
		for _, list := range [][]impl.Pulse{s.sequence(40), s.alike(40)} {
			whole := slices.Clone(list)
			for _, part := range [][]impl.Pulse{list[:20], list[5:20], list[:0], list[:29], list} {
				useSequence(part)
				if !slices.Equal(whole, list) {
					t.Fatalf("%v became %v", whole, list)
				}
			}
		}
	}
}

// useSequence gives a sequence to all functions, and spoils what they return.
func useSequence(list []impl.Pulse) {
	impl.IsSequence(list)
	impl.SequenceText(list)
	impl.TableOfSequence(list)
	impl.RenewedTable(list, 3)
	impl.RunSequence(list, impl.Spinor{1, i64})
	impl.AnglesOf(list)
	impl.DriftsOf(list)
	for _, run := range []func([]impl.Pulse) ([]impl.Pulse, int64){impl.InverseSequence, impl.EchoOf, impl.ShortenSequence} {
		result, _ := run(list)
		spoil(result)
	}
}

func TestResultsOfTextsAndSearchesAreNew(t *testing.T) {
	target, _ := impl.TableOfSequence([]impl.Pulse{x1, y1, z1})
	for range 2 {
		list, code := impl.ParseSequence("x1 -y2 z24")
		wantList(t, "ParseSequence", list, code, []impl.Pulse{x1, {Axis: 1, Halvings: 2, Back: true}, {Axis: 2, Halvings: 24}})
		spoil(list)
		list, code = impl.FindSequence(target, 1, 3, 0)
		want := wantedSearch(target, searched(1), 3, 0)
		wantList(t, "FindSequence", list, code, want)
		spoil(list)
	}
}
