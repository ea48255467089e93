package tests

import (
	"testing"

	"loop.example/g01214/impl"
)

func TestExpectationOf(t *testing.T) {
	m := mixtureWith(1, 2, complex(3, 4))
	low, high := complex(power(-75), 0), complex(power(75), 0)
	cases := []struct {
		m    impl.Turn
		s    impl.Spinor
		want float32
	}{
		{m, impl.Spinor{}, 0},
		{m, impl.Spinor{1, 0}, 1},
		{m, impl.Spinor{0, i64}, 2},
		{m, impl.Spinor{1, 1}, 9},
		{m, impl.Spinor{1, -1}, -3},
		{m, impl.Spinor{1, i64}, 11},
		{m, impl.Spinor{i64, 1}, -5},
		{m, impl.Spinor{2, complex(1, 1)}, 4 + 4 + 2*14},
		{impl.Turn{}, impl.Spinor{greatest, complex(1, greatest)}, 0},
		{unit, impl.Spinor{complex(1, 2), complex(3, -1)}, 15},
		// What the table makes of the spinor comes first, and is rounded to 0.
		{mixtureWith(power(-75), 0, 0), impl.Spinor{low, 0}, 0},
		{mixtureWith(power(-75), 0, 0), impl.Spinor{high, 0}, power(75)},
		{mixtureWith(0, 0, low), impl.Spinor{low, high}, power(-75)},
		{mixtureWith(0, 0, low), impl.Spinor{high, low}, power(-75)},
		{mixtureWith(at(1), at(2), complex(0, at(1))), impl.Spinor{0, complex(1, at(5))}, at(2)},
		{mixtureWith(4096, 4097, 0), impl.Spinor{1, complex(0, 1)}, 8193},
	}
	for _, c := range cases {
		x, code := impl.ExpectationOf(c.m, c.s)
		wantValue(t, "ExpectationOf", x, code, c.want)
	}
}

func TestExpectationOfAtTheLimit(t *testing.T) {
	big, half := complex(power(64), 0), complex(power(32), 0)
	cases := []struct {
		m impl.Turn
		s impl.Spinor
	}{
		{unit, impl.Spinor{big, 0}},
		{unit, impl.Spinor{0, i64 * big}},
		{unit, impl.Spinor{complex(1.5*power(63), 0), complex(1.5*power(63), 0)}},
		{mixtureWith(power(64), 0, 0), impl.Spinor{big, 0}},
		{mixtureWith(0, 0, big), impl.Spinor{big, 0}},
		{mixtureWith(0, 0, big), impl.Spinor{0, big}},
		{mixtureWith(greatest, 0, greatest), impl.Spinor{1, 1}},
		{mixtureWith(0, greatest, 0), impl.Spinor{0, 2}},
		// Only imaginary parts are not finite.
		{mixtureWith(0, 0, big), impl.Spinor{half, i64 * half}},
		{mixtureWith(0, 0, i64*big), impl.Spinor{half, half}},
	}
	for _, c := range cases {
		x, code := impl.ExpectationOf(c.m, c.s)
		wantNone(t, "ExpectationOf", x, code, impl.ErrLimit)
	}
	x, code := impl.ExpectationOf(unit, impl.Spinor{complex(power(63), 0), complex(0, power(63))})
	wantValue(t, "ExpectationOf", x, code, power(127))
	x, code = impl.ExpectationOf(mixtureWith(greatest, 1, 0), impl.Spinor{1, complex(power(51), 0)})
	wantValue(t, "ExpectationOf", x, code, greatest)
}

func TestOverlapOf(t *testing.T) {
	m := mixtureWith(1, 2, complex(3, 4))
	low := power(-75)
	cases := []struct {
		m, n impl.Turn
		want float32
	}{
		{mixtureWith(1, 0, 0), mixtureWith(0, 1, 0), 0},
		{mixtureWith(1, 0, 0), mixtureWith(1, 0, 0), 1},
		{m, impl.Turn{}, 0},
		{m, unit, 3},
		{m, m, 55},
		{m, mixtureWith(5, 6, complex(7, -8)), 5 + 12 + 2*(21-32)},
		{m, mixtureWith(0, 0, complex(-3, -4)), -50},
		{m, mixtureWith(0, 0, complex(4, -3)), 0},
		{mixtureWith(low, low, 0), mixtureWith(low, low, 0), 0},
		{mixtureWith(0, 0, complex(low, low)), mixtureWith(0, 0, complex(low, low)), at(2)},
		// 4097 times 4097 is rounded to 4096 times 4098, each before they are added.
		{mixtureWith(4097, 1, 0), mixtureWith(4097, 1, 0), 4096 * 4098},
		{mixtureWith(4097, 4097, -complex(4097, 0)), mixtureWith(4097, 4097, complex(4097, 0)), 0},
		{mixtureWith(4097, 0, -2049), mixtureWith(4097, 1, 4096), 4096*4098 - 4098*4096},
		{mixtureWith(greatest, 1, 0), mixtureWith(1, power(102), 0), greatest},
	}
	for _, c := range cases {
		for _, pair := range [][2]impl.Turn{{c.m, c.n}, {c.n, c.m}} {
			x, code := impl.OverlapOf(pair[0], pair[1])
			wantValue(t, "OverlapOf", x, code, c.want)
		}
	}
}

func TestOverlapOfAtTheLimit(t *testing.T) {
	big, half := complex(power(64), 0), complex(power(63), 0)
	cases := [][2]impl.Turn{
		{mixtureWith(power(64), 0, 0), mixtureWith(power(64), 0, 0)},
		{mixtureWith(0, power(64), 0), mixtureWith(0, power(64), 0)},
		{mixtureWith(0, 0, big), mixtureWith(0, 0, -big)},
		{mixtureWith(0, 0, big), mixtureWith(0, 0, half)},
		{mixtureWith(0, 0, i64*big), mixtureWith(0, 0, -i64*half)},
		{mixtureWith(greatest, greatest, 0), unit},
		{mixtureWith(greatest, power(103), 0), unit},
		// Only the imaginary part of the product is not finite.
		{mixtureWith(0, 0, big), mixtureWith(0, 0, i64*big)},
		{mixtureWith(1, 1, -i64*big), mixtureWith(1, 1, big)},
		// What would be taken away comes after the first sum.
		{mixtureWith(power(64), 0, half), mixtureWith(power(64), 0, -half)},
		{mixtureWith(power(64), 0, big), mixtureWith(power(64), 0, -half)},
	}
	for _, c := range cases {
		for _, pair := range [][2]impl.Turn{{c[0], c[1]}, {c[1], c[0]}} {
			x, code := impl.OverlapOf(pair[0], pair[1])
			wantNone(t, "OverlapOf", x, code, impl.ErrLimit)
		}
	}
	x, code := impl.OverlapOf(mixtureWith(power(63), power(63), half), mixtureWith(power(63), power(63), -half))
	wantValue(t, "OverlapOf", x, code, 0)
}

func TestAddMixtures(t *testing.T) {
	cases := [][3]impl.Turn{
		{{}, {}, {}},
		{mixtureWith(1, 0, 0), mixtureWith(0, 1, 0), unit},
		{mixtureWith(1, 2, complex(3, 4)), mixtureWith(5, 6, complex(-7, 8)), mixtureWith(6, 8, complex(-4, 12))},
		{mixtureWith(1, 1<<24, complex(1, -1)), mixtureWith(1<<24, 1, complex(1<<24, 3)), mixtureWith(1<<24, 1<<24, complex(1<<24, 2))},
		{mixtureWith(at(1), at(1<<23-1), complex(at(1), -at(1))), mixtureWith(at(2), at(1), complex(-at(1), at(3))), mixtureWith(at(3), at(1<<23), complex(0, at(2)))},
		{mixtureWith(greatest, power(102), complex(greatest, -greatest)), mixtureWith(power(102), greatest, complex(-greatest, 1)), mixtureWith(greatest, greatest, complex(0, -greatest))},
	}
	for _, c := range cases {
		for _, pair := range [][2]impl.Turn{{c[0], c[1]}, {c[1], c[0]}} {
			m, code := impl.AddMixtures(pair[0], pair[1])
			wantValue(t, "AddMixtures", m, code, c[2])
		}
	}
	most := complex64(greatest)
	for _, pair := range [][2]impl.Turn{
		{mixtureWith(greatest, 0, 0), mixtureWith(greatest, 0, 0)}, {mixtureWith(0, greatest, 0), mixtureWith(0, power(103), 0)},
		{mixtureWith(1, 1, most), mixtureWith(1, 1, most)}, {mixtureWith(1, 1, -i64*most), mixtureWith(1, 1, complex(1, -power(103)))},
	} {
		m, code := impl.AddMixtures(pair[0], pair[1])
		wantNone(t, "AddMixtures", m, code, impl.ErrLimit)
	}
}

func TestPairsOfMixturesExactly(t *testing.T) {
	s := &sampler{state: 110}
	found := 0
	for range samples / 2 {
		pair, one := s.anyMixtures(2), s.spinors(1)[0]
		if s.next(2) == 0 {
			one = impl.Spinor(s.turning()[0])
		}
		r := &reckoner{}
		want := r.overlap(pair[0], pair[1])
		overlap, code := impl.OverlapOf(pair[0], pair[1])
		wantReckoned(t, r, "OverlapOf", overlap, code, want)
		r = &reckoner{}
		wantSum := r.mixtureSum(pair[0], pair[1])
		sum, code := impl.AddMixtures(pair[0], pair[1])
		wantReckoned(t, r, "AddMixtures", sum, code, wantSum)
		r = &reckoner{}
		want = r.expectation(pair[0], one)
		x, code := impl.ExpectationOf(pair[0], one)
		wantReckoned(t, r, "ExpectationOf", x, code, want)
		if overlap != 0 && x != 0 {
			found++
		}
	}
	if found < samples/8 {
		t.Errorf("only %d of %d pairs say something", found, samples/2)
	}
}

// Promise 6: overlaps do not depend on the order.
func TestOverlapsInEitherOrder(t *testing.T) {
	s := &sampler{state: 111}
	found := 0
	list := goodMixtures()
	for range samples {
		pair := s.anyMixtures(2)
		if s.next(20) == 0 {
			pair[1] = list[s.next(int64(len(list)))]
		}
		overlap, code := impl.OverlapOf(pair[0], pair[1])
		turned, codeTurned := impl.OverlapOf(pair[1], pair[0])
		if overlap != turned || code != codeTurned {
			t.Errorf("of %v: %v, %d and %v, %d", pair, overlap, code, turned, codeTurned)
		}
		if code == impl.ErrNone && overlap != 0 {
			found++
		}
	}
	if found < samples/3 {
		t.Errorf("only %d of %d overlaps say something", found, samples)
	}
}
