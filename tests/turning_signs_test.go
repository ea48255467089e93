package tests

import (
	"testing"

	"loop.example/g01214/impl"
)

func TestTurningSign(t *testing.T) {
	one, side := impl.Point{At: 1}, impl.Point{At: i64}
	tiny := complex(at(1), 0)
	cases := []struct {
		p, q, r impl.Point
		want    int64
	}{
		{impl.Point{}, one, side, 1},
		{one, side, impl.Point{}, 1},
		{side, impl.Point{}, one, 1},
		{impl.Point{At: 2}, impl.Point{At: complex(2, 1)}, impl.Point{At: complex(-3, 5)}, -1},
		{one, side, far, -1},
		{far, one, side, -1},
		{far, impl.Point{At: complex(1, 5)}, impl.Point{At: complex(1, -5)}, 1},
		{impl.Point{Far: true, At: minusPair}, one, side, -1},
		// The imaginary part is 0: equal points, points of one circle with 0 and the far one as
		// opposites, and those of which two are opposite.
		{one, one, side, 0},
		{side, side, side, 0},
		{far, side, far, 0},
		{impl.Point{}, far, impl.Point{At: complex(3, 4)}, 0},
		{impl.Point{At: 2}, impl.Point{At: complex(-0.5, minusZero)}, side, 0},
		{impl.Point{At: 3}, impl.Point{At: -7}, impl.Point{At: 0.25}, 0},
		{impl.Point{At: 3i}, impl.Point{At: -7i}, impl.Point{At: 0.25i}, 0},
		{impl.Point{At: minusPair}, one, impl.Point{At: complex(minusZero, 1)}, 1},
		{impl.Point{At: complex(1, 1)}, impl.Point{At: complex(-2, -2)}, far, 0},
		// The imaginary part is rounded to 0, or is the least number.
		{impl.Point{}, impl.Point{At: two(-75)}, impl.Point{At: i64 * two(-75)}, 0},
		{impl.Point{}, impl.Point{At: 1.5 * two(-75)}, impl.Point{At: i64 * two(-75)}, 1},
		{impl.Point{}, impl.Point{At: tiny}, impl.Point{At: i64}, 1},
		{impl.Point{}, impl.Point{At: tiny}, impl.Point{At: -i64}, -1},
		{impl.Point{}, impl.Point{At: tiny}, impl.Point{At: i64 * 0.5}, 0},
		{impl.Point{}, impl.Point{At: two(63)}, impl.Point{At: i64 * two(63)}, 1},
		{far, impl.Point{At: two(64)}, impl.Point{}, 0},
	}
	for _, c := range cases {
		sign, code := impl.TurningSign(c.p, c.q, c.r)
		wantValue(t, "TurningSign", sign, code, c.want)
		sign, code = impl.TurningSign(c.r, c.q, c.p)
		wantValue(t, "TurningSign read backwards", sign, code, -c.want)
	}
}

func TestTurningSignAtTheLimit(t *testing.T) {
	for _, huge := range hugePoints() {
		for _, p := range []impl.Point{{}, far, {At: 1}, {At: i64}} {
			for _, three := range [][3]impl.Point{{huge, huge, p}, {huge, p, huge}, {p, huge, huge}} {
				sign, code := impl.TurningSign(three[0], three[1], three[2])
				wantNone(t, "TurningSign", sign, code, impl.ErrLimit)
			}
		}
	}
	// The inner products are finite, but their product is not.
	big := impl.Point{At: two(64)}
	sign, code := impl.TurningSign(impl.Point{At: 1}, big, impl.Point{At: i64})
	wantNone(t, "TurningSign", sign, code, impl.ErrLimit)
	sign, code = impl.TurningSign(far, big, far)
	wantNone(t, "TurningSign", sign, code, impl.ErrLimit)
}

// The guarantee of chapter 8: turning signs change if the points are read backwards.
func TestTurningSignsReadBackwards(t *testing.T) {
	s := &sampler{state: 152}
	signs := map[int64]int{}
	for range samples {
		p := s.points(3)
		sign, code := impl.TurningSign(p[0], p[1], p[2])
		turned, codeTurned := impl.TurningSign(p[2], p[1], p[0])
		if turned != -sign || codeTurned != code {
			t.Errorf("of %v: %d, %d and %d, %d", p, sign, code, turned, codeTurned)
		}
		signs[sign]++
	}
	if signs[1] < samples/6 || signs[-1] < samples/6 {
		t.Errorf("TurningSign gave the signs %v", signs)
	}
}

func TestTurningSignExactly(t *testing.T) {
	s := &sampler{state: 153}
	signs := map[int64]int{}
	list := goodPoints()
	for range samples {
		p, r := s.points(3), &reckoner{}
		if s.next(4) == 0 {
			p[s.next(3)] = list[s.next(int64(len(list)))]
		}
		want := r.turningSign(p[0], p[1], p[2])
		sign, code := impl.TurningSign(p[0], p[1], p[2])
		wantReckoned(t, r, "TurningSign", sign, code, want)
		if code == impl.ErrNone {
			signs[sign]++
		}
	}
	if signs[0] < samples/50 || signs[1] < samples/6 || signs[-1] < samples/6 {
		t.Errorf("TurningSign gave the signs %v", signs)
	}
}
