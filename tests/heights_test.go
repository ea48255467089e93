package tests

import (
	"slices"
	"testing"

	"loop.example/g01214/impl"
)

func wantHeights(t *testing.T, list []impl.Point, want ...int64) {
	t.Helper()
	got, code := impl.HeightsOf(list)
	if !slices.Equal(got, want) || code != impl.ErrNone {
		t.Errorf("HeightsOf(%v) = %v, %d, want %v", list, got, code, want)
	}
}

func wantNoHeights(t *testing.T, list []impl.Point, want int64) {
	t.Helper()
	got, code := impl.HeightsOf(list)
	if len(got) != 0 || code != want {
		t.Errorf("HeightsOf(%v) = %v, %d, want the code %d", list, got, code, want)
	}
}

func TestHeightsOf(t *testing.T) {
	wantHeights(t, nil)
	wantHeights(t, []impl.Point{})
	wantHeights(t, []impl.Point{{At: 7}}, 0)
	wantHeights(t, []impl.Point{far, {At: 2}, {}}, 2, 1, 0)
	wantHeights(t, atPoints(0.5, -3, 1, 0, 2), 3, 0, 2, 4, 1)
	// Equal heights, some of them only because of roundings.
	wantHeights(t, []impl.Point{{At: 1}, {At: i64}, {At: -1}, {At: -i64}}, 0, 1, 2, 3)
	wantHeights(t, []impl.Point{far, {At: complex(power(63), 0)}, {Far: true, At: minusPair}, {At: 4}}, 3, 0, 1, 2)
	wantHeights(t, []impl.Point{{At: 1}, {At: complex(at(1), 0)}, {At: complex(0, power(-30))}, {}, {At: minusPair}}, 1, 2, 3, 4, 0)
	wantHeights(t, []impl.Point{{At: complex(3, 4)}, {At: -5}, {At: complex(4, -3)}, {At: complex(0, 5)}, {At: 1}}, 4, 0, 1, 2, 3)
}

// manyPoints are n points, of which each two neighbours have the same height.
func manyPoints(n int) []impl.Point {
	var list []impl.Point
	for i := range n {
		list = append(list, impl.Point{At: complex(float32(i/2), 0)})
	}
	return list
}

func TestHeightsOfManyPoints(t *testing.T) {
	wantHeights(t, manyPoints(20), 0, 1, 2, 3, 4, 5, 6, 7, 8, 9, 10, 11, 12, 13, 14, 15, 16, 17, 18, 19)
	turned := manyPoints(20)
	slices.Reverse(turned)
	wantHeights(t, turned, 18, 19, 16, 17, 14, 15, 12, 13, 10, 11, 8, 9, 6, 7, 4, 5, 2, 3, 0, 1)
	wantHeights(t, slices.Repeat([]impl.Point{far}, 20), 0, 1, 2, 3, 4, 5, 6, 7, 8, 9, 10, 11, 12, 13, 14, 15, 16, 17, 18, 19)
	for _, n := range []int{21, 22, 40, 1000} {
		wantNoHeights(t, manyPoints(n), impl.ErrRange)
		// ErrRange comes ahead of ErrLimit.
		wantNoHeights(t, slices.Repeat([]impl.Point{{At: greatest}}, n), impl.ErrRange)
	}
}

func TestHeightsOfErrors(t *testing.T) {
	for _, n := range []int{1, 2, 19, 20} {
		for _, huge := range hugePoints() {
			for _, i := range []int{0, n / 2, n - 1} {
				list := manyPoints(n)
				list[i] = huge
				wantNoHeights(t, list, impl.ErrLimit)
			}
		}
	}
	for _, bad := range badPoints() {
		for _, n := range []int{1, 2, 20, 21, 50} {
			for _, i := range []int{0, n / 2, n - 1} {
				for _, rest := range []impl.Point{{}, far, {At: greatest}} {
					list := slices.Repeat([]impl.Point{rest}, n)
					list[i] = bad
					wantNoHeights(t, list, impl.ErrInvalid)
				}
			}
		}
	}
}

func TestHeightsOfExactly(t *testing.T) {
	s := &sampler{state: 75}
	found := 0
	for n := range 21 {
		for range 30 {
			list, r := s.points(n + 3)[:n], &reckoner{}
			whole := slices.Clone(list[:cap(list)])
			want := r.heights(list)
			if r.failed {
				wantNoHeights(t, list, impl.ErrLimit)
			} else {
				wantHeights(t, list, want...)
				found++
			}
			if !slices.Equal(whole, list[:cap(list)]) {
				t.Errorf("HeightsOf changed its list of %d", n)
			}
		}
	}
	if found < 21*30/3 {
		t.Errorf("only %d lists say something", found)
	}
}

func TestHeightsAreNew(t *testing.T) {
	list := manyPoints(4)
	first, code := impl.HeightsOf(list)
	if len(first) != 4 || code != impl.ErrNone {
		t.Fatalf("HeightsOf = %v, %d", first, code)
	}
	first[0] = 17
	wantHeights(t, list, 0, 1, 2, 3)
}
