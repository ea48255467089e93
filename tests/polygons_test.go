package tests

import (
	"slices"
	"testing"

	"loop.example/g01214/impl"
)

var up, down = impl.Spinor{1, 0}, impl.Spinor{0, 1}

// refusingPolygon calls a function of a polygon, and expects a code and a zero value.
type refusingPolygon struct {
	most   int
	refuse func(t *testing.T, list []impl.Spinor, want int64)
}

func refusesPolygon[T comparable](name string, run func([]impl.Spinor) (T, int64)) refusingPolygon {
	return refusingPolygon{24, func(t *testing.T, list []impl.Spinor, want int64) {
		t.Helper()
		got, code := run(list)
		wantNone(t, name, got, code, want)
	}}
}

func refusesCorners(name string, most int, run func([]impl.Spinor) ([]impl.Spinor, int64)) refusingPolygon {
	return refusingPolygon{most, func(t *testing.T, list []impl.Spinor, want int64) {
		t.Helper()
		got, code := run(list)
		wantNoList(t, name, got, code, want)
	}}
}

func functionsOfPolygons() []refusingPolygon {
	return []refusingPolygon{
		refusesPolygon("InvariantOf", impl.InvariantOf),
		refusesPolygon("PhaseOfLoop", impl.PhaseOfLoop),
		refusesCorners("ParallelPolygon", 24, impl.ParallelPolygon),
		refusesPolygon("ClosingPhase", impl.ClosingPhase),
		refusesCorners("RefinePolygon", 12, impl.RefinePolygon),
		refusesPolygon("RoundTable", impl.RoundTable),
		refusesPolygon("PerimeterOf", impl.PerimeterOf),
	}
}

// plainCorners would lead to no error, to ErrState, and to ErrLimit.
var plainCorners = []impl.Spinor{up, {1, i64}, {}, {greatest, complex(0, greatest)}}

func TestPolygonsRefuseWhatIsNoSpinor(t *testing.T) {
	for _, function := range functionsOfPolygons() {
		for _, n := range []int{1, 2, 3, 12, 13, 24, 25, 60} {
			for k, bad := range badSpinors() {
				list := repeatedSpinor(plainCorners[k%4], n)
				for _, i := range []int{0, n / 2, n - 1} {
					changed := slices.Clone(list)
					changed[i] = bad
					function.refuse(t, changed, impl.ErrInvalid)
				}
			}
		}
	}
}

// ErrRange comes ahead of ErrState and ErrLimit.
func TestPolygonsRefuseOtherLengths(t *testing.T) {
	for _, function := range functionsOfPolygons() {
		function.refuse(t, nil, impl.ErrRange)
		function.refuse(t, []impl.Spinor{}, impl.ErrRange)
		for _, n := range []int{1, 2, 3, 12, 100, 256, 257, 1 << 16} {
			for _, s := range plainCorners {
				function.refuse(t, repeatedSpinor(s, function.most+n), impl.ErrRange)
			}
		}
	}
}

func TestPolygonsOfAllLengths(t *testing.T) {
	if impl.MaxCorners != 24 {
		t.Errorf("MaxCorners = %d", impl.MaxCorners)
	}
	for n := 1; n <= 24; n++ {
		for _, s := range []impl.Spinor{up, down, {i64, 0}, {0, -i64}} {
			list := repeatedSpinor(s, n)
			z, code := impl.InvariantOf(list)
			wantValue(t, "InvariantOf", z, code, 1)
			z, code = impl.PhaseOfLoop(list)
			wantValue(t, "PhaseOfLoop", z, code, 1)
			z, code = impl.ClosingPhase(list)
			wantValue(t, "ClosingPhase", z, code, 1)
			parallel, code := impl.ParallelPolygon(list)
			wantList(t, "ParallelPolygon", parallel, code, list)
			round, code := impl.RoundTable(list)
			wantValue(t, "RoundTable", round, code, unit)
			x, code := impl.PerimeterOf(list)
			wantValue(t, "PerimeterOf", x, code, 0)
			if n <= 12 {
				refined, code := impl.RefinePolygon(list)
				wantList(t, "RefinePolygon", refined, code, repeatedSpinor(s, 2*n))
			}
		}
	}
}

func TestFunctionsOfTwoCornersRefuseWhatIsNoSpinor(t *testing.T) {
	for _, bad := range badSpinors() {
		for _, other := range append([]impl.Spinor{bad, down}, plainCorners...) {
			for _, pair := range [][2]impl.Spinor{{bad, other}, {other, bad}} {
				middle, code := impl.MiddleOf(pair[0], pair[1])
				wantNone(t, "MiddleOf", middle, code, impl.ErrInvalid)
				table, code := impl.CarryingTable(pair[0], pair[1])
				wantNone(t, "CarryingTable", table, code, impl.ErrInvalid)
			}
		}
	}
}

func TestTurningSignRefusesWhatIsNoPoint(t *testing.T) {
	for _, bad := range badPoints() {
		for _, other := range []impl.Point{{}, far, {At: i64}, {At: greatest}, bad} {
			for _, three := range [][3]impl.Point{{bad, other, other}, {other, bad, other}, {other, other, bad}} {
				sign, code := impl.TurningSign(three[0], three[1], three[2])
				wantNone(t, "TurningSign", sign, code, impl.ErrInvalid)
			}
		}
	}
}

// overwrite spoils a result and the spare capacity behind it.
func overwrite(list []impl.Spinor) {
	list = list[:cap(list)]
	for i := range list {
		list[i] = impl.Spinor{77, 77i}
	}
}

// usePolygon gives a polygon to all functions, and spoils what they return.
func usePolygon(list []impl.Spinor) {
	impl.InvariantOf(list)
	impl.PhaseOfLoop(list)
	impl.ClosingPhase(list)
	impl.RoundTable(list)
	impl.PerimeterOf(list)
	for _, run := range []func([]impl.Spinor) ([]impl.Spinor, int64){impl.ParallelPolygon, impl.RefinePolygon} {
		result, _ := run(list)
		overwrite(result)
	}
}

func TestPolygonsStayAsTheyAre(t *testing.T) {
	s := &sampler{state: 140}
	for range 100 {
		list := s.polygon(24)
		whole := slices.Clone(list)
		for _, part := range [][]impl.Spinor{list[:1], list[:12], list[3:9], list[23:], list[:0], list[:17], list} {
			usePolygon(part)
			if !slices.Equal(whole, list) {
				t.Fatalf("%v became %v", whole, list)
			}
		}
	}
}

// A result does not change with the polygon that it was found from.
func TestCornersThatAreFoundAreNew(t *testing.T) {
	for n := 1; n <= 12; n++ {
		list := repeatedSpinor(up, n)
		parallel, code := impl.ParallelPolygon(list)
		refined, codeRefined := impl.RefinePolygon(list)
		overwrite(list)
		wantList(t, "ParallelPolygon", parallel, code, repeatedSpinor(up, n))
		wantList(t, "RefinePolygon", refined, codeRefined, repeatedSpinor(up, 2*n))
	}
}
