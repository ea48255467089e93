package tests

import (
	"math"
	"testing"

	"loop.example/g01214/impl"
)

// spinorOf has whole numbers over a whole number, each rounded once.
func spinorOf(u, x, y, over float32) impl.Spinor {
	return impl.Spinor{complex(u/over, 0), complex(x/over, y/over)}
}

func TestSpinorAlong(t *testing.T) {
	low := power(-74)
	cases := []struct {
		v    impl.Vector
		want impl.Spinor
	}{
		{impl.Vector{0, 0, 2}, up},
		{impl.Vector{0, 0, -2}, down},
		{impl.Vector{minusZero, minusZero, 1}, up},
		{impl.Vector{minusZero, 0, -1}, down},
		{alongX, impl.Spinor{h, h}},
		{impl.Vector{-1, 0, minusZero}, impl.Spinor{h, -h}},
		{alongY, impl.Spinor{h, i64 * h}},
		{impl.Vector{0, -4, 0}, impl.Spinor{h, -i64 * h}},
		{impl.Vector{24, 0, 7}, spinorOf(4, 3, 0, 5)},
		{impl.Vector{24, 0, -7}, spinorOf(3, 4, 0, 5)},
		{impl.Vector{0, -24, 7}, spinorOf(4, 0, -3, 5)},
		{impl.Vector{-24, 0, -7}, spinorOf(3, -4, 0, 5)},
		{impl.Vector{4, 4, -7}, spinorOf(1, 2, 2, 3)},
		{impl.Vector{8, -4, -1}, spinorOf(4, 4, -2, 6)},
		// The sum of m and z is 0, though x and y are not both.
		{impl.Vector{1, 0, -1 << 24}, down},
		{impl.Vector{power(-12), -power(-13), -1}, down},
		{impl.Vector{1.5 * power(-12), 0, -1}, down},
		{impl.Vector{0, power(-75), -1}, down},
		{impl.Vector{at(1), at(1), -power(-60)}, down},
		// It is one step of z, which the square of x brings about.
		{impl.Vector{power(-11), 0, -1}, impl.Spinor{two(-12), 1}},
		{impl.Vector{0, -power(-11), -1}, impl.Spinor{two(-12), -i64}},
		{impl.Vector{power(-12), 0, 1}, impl.Spinor{1, two(-13)}},
		// Squares are 0, or below the normal numbers.
		{impl.Vector{0, 0, low}, up},
		{impl.Vector{0, 0, -low}, down},
		{impl.Vector{low / 2, -low / 2, low}, spinorOf(2*low, low/2, -low/2, float32(math.Sqrt(float64(at(9)))))},
		{impl.Vector{power(-100), 0, 1}, impl.Spinor{1, two(-101)}},
		{impl.Vector{at(3), 0, 1}, impl.Spinor{1, complex(at(2), 0)}},
		{impl.Vector{at(1), -at(5), 1}, impl.Spinor{1, complex(0, -at(2))}},
		// The greatest ones.
		{impl.Vector{0, 0, -power(63)}, down},
		{impl.Vector{0, 0, -below(power(64))}, down},
		{impl.Vector{0, 0, below(power(63))}, up},
		{impl.Vector{power(63), 0, 0}, impl.Spinor{h, h}},
		{impl.Vector{0, -power(63), power(-63)}, impl.Spinor{h, -i64 * h}},
		{impl.Vector{0, power(40), -below(power(64))}, down},
	}
	for _, c := range cases {
		s, code := impl.SpinorAlong(c.v)
		wantValue(t, "SpinorAlong", s, code, c.want)
	}
}

func wantNoneAlong(t *testing.T, v impl.Vector, want int64) {
	t.Helper()
	s, code := impl.SpinorAlong(v)
	wantNone(t, "SpinorAlong", s, code, want)
}

// withoutDirection are vectors with an m of 0, or a norm of 0.
func withoutDirection() []impl.Vector {
	low, tiny := power(-74), power(-75)
	list := []impl.Vector{
		{}, {minusZero, 0, minusZero}, {tiny, tiny, tiny}, {-tiny, tiny, -tiny}, {0, 0, tiny}, {0, 0, -tiny},
		// m is 2^-74, because the square of z is rounded to 2^-148; the sum of both is not 0, but its
		// square is, and so are those of x and y.
		{0, 0, -0.9 * low}, {0, 0, -1.1 * low}, {tiny, 0, -0.9 * low}, {0, -tiny, -1.1 * low},
		{tiny / 2, tiny / 2, -0.9 * low}, {-tiny / 2, at(1), -1.1 * low}, {at(1), -at(1), -1.1 * low},
		// m is the root of 2^-149.
		{0, 0, -low * 0.75}, {tiny, 0, -low * 0.6},
	}
	for i := range 3 {
		for _, x := range []float32{at(1), -at(1), at(1 << 23), -at(1<<23 - 1), power(-100), -tiny} {
			list = append(list, vectorWith(i, x, 0), vectorWith(i, x, at(1)))
		}
	}
	return list
}

func TestSpinorAlongWithoutDirection(t *testing.T) {
	for _, v := range withoutDirection() {
		wantNoneAlong(t, v, impl.ErrState)
	}
	// Those a little longer have one.
	low, tiny := power(-74), power(-75)
	for _, v := range []impl.Vector{{0, 0, 1.0625 * tiny}, {tiny / 2, tiny, -0.9 * low}, {tiny, tiny, -0.9 * low}, {low, 0, -0.9 * low}, {0, 0, 0.9 * low}} {
		want, wantCode := new(reckoner).along(v)
		s, code := impl.SpinorAlong(v)
		wantOutcome(t, "SpinorAlong", s, code, want, wantCode)
		if code != impl.ErrNone {
			t.Errorf("SpinorAlong(%v) gave the code %d", v, code)
		}
	}
}

// tooLong are vectors of which the dot, or the norm, is not finite.
func tooLong() []impl.Vector {
	more := 1.5 * power(63)
	list := []impl.Vector{
		{more, more, 0}, {0, more, -more}, {-more, 0, more}, {greatest, greatest, greatest}, {power(64), 0, -power(64)},
		// Only the norm: the square of m + z, that of x + y i, or their sum.
		{0, 0, power(63)}, {1, 0, power(63)}, {0, 0, below(power(64))}, {0, more, 0}, {more, 0, 0}, {-1.2 * power(63), 0, power(62)},
	}
	for i := range 3 {
		for _, rest := range []float32{0, 1, at(1), greatest} {
			list = append(list, vectorWith(i, power(64), rest), vectorWith(i, -power(64), rest), vectorWith(i, -greatest, rest))
		}
	}
	return list
}

func TestSpinorAlongAtTheLimit(t *testing.T) {
	for _, v := range tooLong() {
		wantNoneAlong(t, v, impl.ErrLimit)
	}
}

func TestSpinorAlongRefusesWhatIsNoVector(t *testing.T) {
	for _, bad := range badVectors() {
		wantNoneAlong(t, bad, impl.ErrInvalid)
	}
}

// direction yields a vector of any kind, one near 1 times a power of two, or one that most often is
// nearly opposite to the third axis; some of them have an m or a norm of 0, or beyond the numbers.
func (s *sampler) direction() impl.Vector {
	kind := s.next(6)
	if kind == 0 {
		return impl.Vector(s.together(3))
	}
	v := longer(impl.Vector(s.nearOne(3)), power(int(s.next(148))-80))
	if kind > 3 {
		v = longer(impl.Vector(s.nearOne(3)), power(int(s.next(6))-77))
	}
	if kind > 1 && v[2] > 0 {
		v[2] *= -1
	}
	if kind%2 == 0 {
		size := power(-int(s.next(30)))
		v[0], v[1] = v[0]*size, v[1]*size
	}
	return v
}

func TestSpinorAlongExactly(t *testing.T) {
	s := &sampler{state: 186}
	codes, downs := map[int64]int{}, 0
	for range samples {
		v, r := s.direction(), &reckoner{}
		want, wantCode := r.along(v)
		spinor, code := impl.SpinorAlong(v)
		wantOutcome(t, "SpinorAlong", spinor, code, want, wantCode)
		codes[code]++
		if spinor == down {
			downs++
		}
	}
	if codes[impl.ErrNone] < samples/2 || codes[impl.ErrState] < samples/20 || codes[impl.ErrLimit] < samples/50 || downs < samples/50 {
		t.Errorf("SpinorAlong gave the codes %v, and (0, 1) %d times", codes, downs)
	}
}
