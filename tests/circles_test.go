package tests

import (
	"testing"

	"loop.example/g01214/impl"
)

// plainPoints have vectors of whole numbers, with which nothing is rounded.
func plainPoints() []impl.Point {
	return []impl.Point{{}, far, {At: 1}, {At: -1}, {At: i64}, {At: -i64}}
}

// hugePoints have squares that are no numbers.
func hugePoints() []impl.Point {
	return []impl.Point{
		{At: complex(power(64), 0)}, {At: complex(0, -power(64))}, {At: greatest}, {At: complex(0, greatest)},
		{At: complex(1.5*power(63), -1.5*power(63))}, {At: complex(-greatest, greatest)},
	}
}

func TestCirclesRefuseWhatIsNoPoint(t *testing.T) {
	circle := impl.Circle{Normal: impl.Vector{greatest, greatest, greatest}, Height: -greatest}
	for _, bad := range badPoints() {
		for _, other := range []impl.Point{{}, far, {At: greatest}, bad} {
			for _, pair := range [][2]impl.Point{{bad, other}, {other, bad}} {
				chord, code := impl.ChordOf(pair[0], pair[1])
				wantNone(t, "ChordOf", chord, code, impl.ErrInvalid)
			}
			for _, three := range [][3]impl.Point{{bad, other, other}, {other, bad, other}, {other, other, bad}} {
				got, code := impl.CircleThrough(three[0], three[1], three[2])
				wantNone(t, "CircleThrough", got, code, impl.ErrInvalid)
			}
		}
		for _, c := range []impl.Circle{{}, circle, {Height: badParts[0]}} {
			side, code := impl.SideOf(c, bad)
			wantNone(t, "SideOf", side, code, impl.ErrInvalid)
		}
	}
}

func TestSideOfRefusesWhatIsNoCircle(t *testing.T) {
	for _, x := range badParts {
		list := []impl.Circle{{Height: x}, {Normal: impl.Vector{1, 2, 3}, Height: x}, {Normal: impl.Vector{x, x, x}, Height: x}}
		for i := range 3 {
			for _, rest := range []float32{0, 1, greatest} {
				list = append(list, impl.Circle{Normal: vectorWith(i, x, rest), Height: rest})
			}
		}
		for _, c := range list {
			for _, p := range []impl.Point{{}, far, {At: 1}, {At: greatest}} {
				side, code := impl.SideOf(c, p)
				wantNone(t, "SideOf", side, code, impl.ErrInvalid)
			}
		}
	}
}

func TestVectorOfPoint(t *testing.T) {
	sub := at(1<<23 - 1)
	cases := []struct {
		p    impl.Point
		want impl.Vector
	}{
		{impl.Point{}, impl.Vector{0, 0, 1}},
		{impl.Point{At: minusPair}, impl.Vector{0, 0, 1}},
		{far, impl.Vector{0, 0, -1}},
		{impl.Point{Far: true, At: minusPair}, impl.Vector{0, 0, -1}},
		{impl.Point{At: 1}, impl.Vector{1, 0, 0}},
		{impl.Point{At: -i64}, impl.Vector{0, -1, 0}},
		{impl.Point{At: 2}, impl.Vector{float32(0.8), 0, float32(-0.6)}},
		{impl.Point{At: complex(1, -2)}, impl.Vector{at(0x3eaaaaab), -at(0x3f2aaaab), -at(0x3f2aaaab)}},
		{impl.Point{At: complex(at(1), -sub)}, impl.Vector{at(2), -2 * sub, 1}},
		{impl.Point{At: complex(power(-76), power(-75))}, impl.Vector{power(-75), power(-74), 1}},
		{impl.Point{At: complex(0, 1.5*power(-75))}, impl.Vector{0, 1.5 * power(-74), 1}},
		{impl.Point{At: complex(power(63), 0)}, impl.Vector{power(-62), 0, -1}},
		{impl.Point{At: complex(0, -power(63))}, impl.Vector{0, -power(-62), -1}},
		// 1 + q is rounded to 2^24, and 1 - q is exact.
		{impl.Point{At: 4096}, impl.Vector{power(-11), 0, -at(0x3f7fffff)}},
	}
	for _, c := range cases {
		v, code := impl.VectorOfPoint(c.p)
		wantValue(t, "VectorOfPoint", v, code, c.want)
	}
	for _, p := range hugePoints() {
		v, code := impl.VectorOfPoint(p)
		wantNone(t, "VectorOfPoint", v, code, impl.ErrLimit)
	}
}

func TestVectorOfPointExactly(t *testing.T) {
	s := &sampler{state: 65}
	for range samples / 2 {
		for _, p := range s.points(2) {
			r := &reckoner{}
			want := r.vectorFor(p)
			v, code := impl.VectorOfPoint(p)
			wantReckoned(t, r, "VectorOfPoint", v, code, want)
		}
	}
}

func TestChordOf(t *testing.T) {
	cases := []struct {
		p, q impl.Point
		want float32
	}{
		{impl.Point{}, far, 4},
		{impl.Point{At: minusPair}, impl.Point{Far: true, At: minusPair}, 4},
		{impl.Point{At: 1}, impl.Point{At: -1}, 4},
		{impl.Point{At: 1}, impl.Point{At: i64}, 2},
		{impl.Point{At: -i64}, far, 2},
		{far, far, 0},
		{impl.Point{At: complex(3, -7)}, impl.Point{At: complex(3, -7)}, 0},
		// The differences are not 0, but all that comes of them is.
		{impl.Point{}, impl.Point{At: complex(at(1), -at(5))}, 0},
		{impl.Point{}, impl.Point{At: complex(power(-76), 0)}, 0},
		{impl.Point{}, impl.Point{At: complex(0, power(-75))}, power(-148)},
		{impl.Point{At: complex(power(63), 0)}, far, power(-124)},
		{impl.Point{}, impl.Point{At: complex(power(63), 0)}, 4},
	}
	for _, c := range cases {
		x, code := impl.ChordOf(c.p, c.q)
		wantValue(t, "ChordOf", x, code, c.want)
		x, code = impl.ChordOf(c.q, c.p)
		wantValue(t, "ChordOf", x, code, c.want)
	}
	for _, huge := range hugePoints() {
		for _, p := range []impl.Point{{}, far, {At: 1}, huge} {
			x, code := impl.ChordOf(huge, p)
			wantNone(t, "ChordOf", x, code, impl.ErrLimit)
			x, code = impl.ChordOf(p, huge)
			wantNone(t, "ChordOf", x, code, impl.ErrLimit)
		}
	}
}

func TestChordOfExactly(t *testing.T) {
	s := &sampler{state: 66}
	for range samples {
		p, r := s.points(2), &reckoner{}
		want := r.chord(p[0], p[1])
		x, code := impl.ChordOf(p[0], p[1])
		wantReckoned(t, r, "ChordOf", x, code, want)
	}
}

// Promise 4: chords do not depend on the order.
func TestChordsDoNotDependOnTheOrder(t *testing.T) {
	s := &sampler{state: 67}
	list := goodPoints()
	for range samples {
		list = append(list, s.points(2)...)
	}
	found := 0
	for i := range len(list) - 1 {
		x, code := impl.ChordOf(list[i], list[i+1])
		y, codeTurned := impl.ChordOf(list[i+1], list[i])
		if y != x || codeTurned != code {
			t.Errorf("of %v and %v: %v, %d and %v, %d", list[i], list[i+1], x, code, y, codeTurned)
		}
		if code == impl.ErrNone && x != 0 {
			found++
		}
	}
	if found < samples {
		t.Errorf("only %d of %d chords say something", found, len(list))
	}
}

func TestCircleThrough(t *testing.T) {
	low := power(-75)
	cases := []struct {
		p, q, r impl.Point
		want    impl.Circle
	}{
		{impl.Point{At: 1}, impl.Point{At: i64}, impl.Point{At: -1}, impl.Circle{Normal: impl.Vector{0, 0, 2}}},
		{impl.Point{}, impl.Point{At: 1}, far, impl.Circle{Normal: impl.Vector{0, 2, 0}}},
		{far, impl.Point{At: i64}, impl.Point{}, impl.Circle{Normal: impl.Vector{2, 0, 0}}},
		{impl.Point{At: 1}, impl.Point{}, impl.Point{At: i64}, impl.Circle{Normal: impl.Vector{-1, -1, -1}, Height: -1}},
		{impl.Point{At: -1}, impl.Point{At: i64}, far, impl.Circle{Normal: impl.Vector{-1, 1, -1}, Height: 1}},
		{impl.Point{}, impl.Point{At: complex(low, 0)}, impl.Point{At: complex(0, low)}, impl.Circle{Normal: impl.Vector{0, 0, power(-148)}, Height: power(-148)}},
		{impl.Point{}, impl.Point{At: 1}, impl.Point{At: complex(0, at(1))}, impl.Circle{Normal: impl.Vector{at(2), 0, at(2)}, Height: at(2)}},
	}
	for _, c := range cases {
		circle, code := impl.CircleThrough(c.p, c.q, c.r)
		wantValue(t, "CircleThrough", circle, code, c.want)
	}
}

func TestCircleThroughErrors(t *testing.T) {
	tiny, none := complex(at(1), 0), complex(power(-76), 0)
	list := [][3]impl.Point{
		{{At: complex(3, 4)}, {At: complex(-3, 1)}, {At: complex(3, 4)}},
		{{}, {At: tiny}, {At: i64 * tiny}}, {{}, {At: none}, {At: i64 * none}}, {{At: none}, {At: i64 * none}, {}},
		{{}, {At: minusPair}, {At: 1}}, {far, {Far: true, At: minusPair}, {At: 2}},
	}
	for _, p := range plainPoints() {
		for _, q := range plainPoints() {
			list = append(list, [3]impl.Point{p, p, q}, [3]impl.Point{p, q, p}, [3]impl.Point{q, p, p})
		}
	}
	for _, c := range list {
		circle, code := impl.CircleThrough(c[0], c[1], c[2])
		wantNone(t, "CircleThrough", circle, code, impl.ErrState)
	}
	// Without all vectors there is no Normal, even if two points are equal.
	for _, huge := range hugePoints() {
		for _, p := range plainPoints() {
			for _, c := range [][3]impl.Point{{huge, p, p}, {p, huge, p}, {p, p, huge}, {huge, huge, p}, {p, huge, huge}, {huge, huge, huge}} {
				circle, code := impl.CircleThrough(c[0], c[1], c[2])
				wantNone(t, "CircleThrough", circle, code, impl.ErrLimit)
			}
		}
	}
}

func TestCircleThroughExactly(t *testing.T) {
	s := &sampler{state: 68}
	codes := map[int64]int{}
	for range samples {
		p, r := s.points(3), &reckoner{}
		want, wantCode := r.circle(p[0], p[1], p[2])
		circle, code := impl.CircleThrough(p[0], p[1], p[2])
		wantOutcome(t, "CircleThrough", circle, code, want, wantCode)
		codes[wantCode]++
	}
	for _, code := range []int64{impl.ErrNone, impl.ErrState, impl.ErrLimit} {
		if codes[code] < samples/100 {
			t.Errorf("the code %d comes up only %d times", code, codes[code])
		}
	}
}

func opposed(c impl.Circle) impl.Circle {
	return impl.Circle{Normal: impl.Vector{-c.Normal[0], -c.Normal[1], -c.Normal[2]}, Height: -c.Height}
}

// Promise 4: circles with two points exchanged have the opposite normal. Where something is
// rounded, the document's order of operations has this for the second and the third point.
func TestExchangedPointsHaveTheOppositeNormal(t *testing.T) {
	s := &sampler{state: 69}
	found := 0
	for range samples {
		p := s.points(3)
		circle, code := impl.CircleThrough(p[0], p[1], p[2])
		turned, codeTurned := impl.CircleThrough(p[0], p[2], p[1])
		if turned != opposed(circle) || codeTurned != code {
			t.Errorf("through %v: %v, %d and %v, %d", p, circle, code, turned, codeTurned)
		}
		if code == impl.ErrNone {
			found++
		}
	}
	if found < samples/3 {
		t.Errorf("only %d of %d circles say something", found, samples)
	}
}

// Promise 4, with points of which each two may be exchanged, because nothing is rounded.
func TestExchangedPlainPointsHaveTheOppositeNormal(t *testing.T) {
	found := 0
	for _, p := range plainPoints() {
		for _, q := range plainPoints() {
			for _, r := range plainPoints() {
				circle, code := impl.CircleThrough(p, q, r)
				for _, c := range [][3]impl.Point{{q, p, r}, {r, q, p}, {p, r, q}} {
					turned, codeTurned := impl.CircleThrough(c[0], c[1], c[2])
					if turned != opposed(circle) || codeTurned != code {
						t.Errorf("through %v, %v, %v: %v, %d and %v, %d", p, q, r, circle, code, turned, codeTurned)
					}
				}
				if code == impl.ErrNone && circle.Normal != (impl.Vector{}) {
					found++
				}
			}
		}
	}
	if found != 6*5*4 {
		t.Errorf("%d circles say something", found)
	}
}

func TestSideOf(t *testing.T) {
	level := impl.Circle{Normal: impl.Vector{0, 0, 1}}
	half := complex64(complex(0.5, 0.5))
	cases := []struct {
		c    impl.Circle
		p    impl.Point
		want int64
	}{
		{level, impl.Point{}, 1},
		{level, far, -1},
		{level, impl.Point{Far: true, At: minusPair}, -1},
		{level, impl.Point{At: i64}, 0},
		{level, impl.Point{At: complex(0, at(0x3f7fffff))}, 1},
		{level, impl.Point{At: complex(0, at(0x3f800001))}, -1},
		{impl.Circle{Normal: impl.Vector{1, 0, 0}, Height: 1}, impl.Point{At: 1}, 0},
		{impl.Circle{Normal: impl.Vector{1, 0, 0}, Height: 1}, impl.Point{At: 2}, -1},
		{impl.Circle{Normal: impl.Vector{0, -1, 0}, Height: -1}, impl.Point{At: 1}, 1},
		{impl.Circle{}, impl.Point{At: 5}, 0},
		{impl.Circle{Normal: impl.Vector{minusZero, 0, 0}, Height: minusZero}, far, 0},
		{impl.Circle{Height: at(1)}, far, -1},
		{impl.Circle{Height: -at(1)}, far, 1},
		{impl.Circle{Normal: impl.Vector{0, 0, at(2)}, Height: at(2)}, impl.Point{}, 0},
		{impl.Circle{Normal: impl.Vector{0, 0, at(2)}, Height: at(1)}, impl.Point{}, 1},
		{impl.Circle{Normal: impl.Vector{0, 0, at(2)}, Height: at(3)}, impl.Point{}, -1},
		{impl.Circle{Normal: impl.Vector{greatest, 0, 0}, Height: greatest}, impl.Point{At: 1}, 0},
		{impl.Circle{Normal: impl.Vector{greatest, 0, 0}, Height: -power(102)}, impl.Point{At: 1}, 1},
		{impl.Circle{Normal: impl.Vector{greatest, -greatest, greatest}}, impl.Point{At: half}, 1},
		{impl.Circle{Normal: impl.Vector{1, 0, 0}, Height: greatest}, impl.Point{At: complex(power(63), 0)}, -1},
	}
	for _, c := range cases {
		side, code := impl.SideOf(c.c, c.p)
		wantValue(t, "SideOf", side, code, c.want)
	}
}

func TestSideOfAtTheLimit(t *testing.T) {
	half := complex64(complex(0.5, 0.5))
	cases := []struct {
		c impl.Circle
		p impl.Point
	}{
		{impl.Circle{Normal: impl.Vector{greatest, 0, 0}, Height: -greatest}, impl.Point{At: 1}},
		{impl.Circle{Normal: impl.Vector{greatest, 0, 0}, Height: -power(103)}, impl.Point{At: 1}},
		{impl.Circle{Normal: impl.Vector{0, 0, greatest}, Height: greatest}, far},
		{impl.Circle{Normal: impl.Vector{greatest, greatest, 0}}, impl.Point{At: half}},
		// From the left, and what comes behind does not bring it back.
		{impl.Circle{Normal: impl.Vector{greatest, greatest, -greatest}}, impl.Point{At: half}},
		{impl.Circle{Normal: impl.Vector{-greatest, -greatest, greatest}, Height: -greatest}, impl.Point{At: half}},
	}
	for _, c := range cases {
		side, code := impl.SideOf(c.c, c.p)
		wantNone(t, "SideOf", side, code, impl.ErrLimit)
	}
	for _, huge := range hugePoints() {
		for _, c := range []impl.Circle{{}, {Normal: impl.Vector{1, 2, 3}, Height: 4}} {
			side, code := impl.SideOf(c, huge)
			wantNone(t, "SideOf", side, code, impl.ErrLimit)
		}
	}
}

func TestSideOfExactly(t *testing.T) {
	s := &sampler{state: 70}
	sides := map[int64]int{}
	for range samples {
		p, r := s.points(4), &reckoner{}
		x := s.together(4)
		circle := impl.Circle{Normal: impl.Vector(x), Height: x[3]}
		through, code := impl.CircleThrough(p[0], p[1], p[2])
		if code == impl.ErrNone && s.next(2) == 0 {
			circle = through
		}
		p[0] = p[s.next(4)]
		want := r.side(circle, p[0])
		side, code := impl.SideOf(circle, p[0])
		wantReckoned(t, r, "SideOf", side, code, want)
		if code == impl.ErrNone {
			sides[want]++
		}
	}
	for _, side := range []int64{-1, 0, 1} {
		if sides[side] < samples/40 {
			t.Errorf("the side %d comes up only %d times", side, sides[side])
		}
	}
}
