package tests

import (
	"slices"
	"testing"

	"loop.example/g01214/impl"
)

func TestCompensatedSum(t *testing.T) {
	third := float32(1) / 3
	cases := []struct {
		list []float32
		want float32
	}{
		{nil, 0},
		{[]float32{}, 0},
		{[]float32{third}, third},
		{[]float32{greatest}, greatest},
		{[]float32{-greatest}, -greatest},
		{[]float32{minusZero}, 0},
		{[]float32{minusZero, 0, minusZero}, 0},
		{[]float32{at(1)}, at(1)},
		// What is lost of the number, or of the sum, comes back.
		{[]float32{1, 1e10, -1e10}, 1},
		{[]float32{1e10, 1, -1e10}, 1},
		{[]float32{1 << 24, 1, 1}, 1<<24 + 2},
		{[]float32{1, 1, 1 << 24}, 1<<24 + 2},
		{[]float32{1, 1 << 25, 1, -1 << 25}, 2},
		{[]float32{-1, -1 << 25, -1, 1 << 25}, -2},
		{[]float32{1, 1e10, 1, -1e10, 1}, 3},
		{[]float32{1 << 24, 3, -1 << 24}, 3},
		{[]float32{3, -1 << 25, 1 << 25}, 3},
		// The rest is rounded, too: 1 is lost of it beside 2^30, and less so in the other order.
		{[]float32{power(80), 1 << 30, 1, -power(80)}, 1 << 30},
		{[]float32{power(80), 1 << 30, 33, -power(80)}, 1 << 30},
		{[]float32{power(80), 33, 33, 1 << 30, -power(80)}, 1<<30 + 128},
		// The rest is not made up for where the sum is rounded at the end.
		{[]float32{1, power(-24), power(-24)}, 1 + power(-23)},
		{[]float32{1, power(-24)}, 1},
		{[]float32{1 + power(-23), power(-24)}, 1 + power(-22)},
		// Absolute values that are equal.
		{[]float32{third, -third}, 0},
		{[]float32{-third, third, third}, third},
		{[]float32{third, third}, 2 * third},
		{[]float32{1, power(30), -power(30), power(30), -power(30)}, 1},
		{[]float32{power(30), 1, power(30), -power(31)}, 1},
		// Numbers below the normal ones are added exactly.
		{[]float32{at(1), at(2), at(3)}, at(6)},
		{[]float32{at(1), 1, -1}, at(1)},
		{[]float32{1, -at(3), -1, at(1)}, -at(2)},
		{[]float32{at(1<<23 - 1), at(1)}, at(1 << 23)},
		// No sum on the way is beyond the numbers.
		{[]float32{greatest, -greatest, greatest, -greatest}, 0},
		{[]float32{greatest, power(102), -greatest}, power(102)},
		{[]float32{at(1), greatest, -greatest}, at(1)},
		{[]float32{greatest, power(102)}, greatest},
	}
	for _, c := range cases {
		sum, code := impl.CompensatedSum(c.list)
		wantValue(t, "CompensatedSum", sum, code, c.want)
	}
}

func TestCompensatedSumOfManyNumbers(t *testing.T) {
	for n := range 101 {
		sum, code := impl.CompensatedSum(ones(n))
		wantValue(t, "CompensatedSum", sum, code, float32(n))
		sum, code = impl.CompensatedSum(append([]float32{1 << 24}, ones(n)...)[:n])
		wantValue(t, "CompensatedSum", sum, code, float32(min(n, 1)<<24+max(n-1, 0)))
	}
	for _, n := range []int{101, 102, 200, 201, 1000} {
		for _, x := range []float32{0, 1, at(1), greatest} {
			sum, code := impl.CompensatedSum(slices.Repeat([]float32{x}, n))
			wantNone(t, "CompensatedSum", sum, code, impl.ErrRange)
		}
	}
}

// ErrInvalid comes ahead of ErrRange and ErrLimit.
func TestCompensatedSumRefusesWhatIsNoNumber(t *testing.T) {
	for _, bad := range badParts {
		for _, rest := range []float32{0, 1, greatest, bad} {
			for _, n := range []int{1, 2, 3, 100, 101, 250} {
				for _, i := range []int{0, n / 2, n - 1} {
					list := slices.Repeat([]float32{rest}, n)
					list[i] = bad
					sum, code := impl.CompensatedSum(list)
					wantNone(t, "CompensatedSum", sum, code, impl.ErrInvalid)
				}
			}
		}
	}
}

// A sum on the way, or only the last one, is not finite.
func TestCompensatedSumAtTheLimit(t *testing.T) {
	for _, list := range [][]float32{
		{greatest, greatest}, {-greatest, -greatest}, {greatest, greatest, -greatest}, {greatest, greatest, -greatest, -greatest},
		{1, greatest, 2, greatest, -greatest, -greatest, -1}, {power(127), power(127), -power(127)}, {greatest, power(103)},
		{power(103), greatest}, {-greatest, -power(103), power(103)}, {power(126), power(126), power(127), -greatest, -greatest},
		{greatest, greatest, greatest, 0, at(1)},
		// The sum is the greatest number, and the rest makes up half a step.
		{greatest, power(102), power(102)}, {-greatest, -power(102), -power(102)}, {greatest, power(102), power(101), power(101)},
	} {
		sum, code := impl.CompensatedSum(list)
		wantNone(t, "CompensatedSum", sum, code, impl.ErrLimit)
	}
}

// cancelling yields n numbers of one kind, of which, half of the time, the later ones are opposites
// of the earlier ones.
func (s *sampler) cancelling(n int) []float32 {
	list := s.together(n)
	if s.next(2) == 0 {
		for i := (n + 1) / 2; i < n; i++ {
			list[i] = -list[i-n/2]
		}
	}
	return list
}

func TestCompensatedSumExactly(t *testing.T) {
	s := &sampler{state: 182}
	found, compensated := 0, 0
	for n := range 101 {
		for range 6 {
			list := s.cancelling(n)
			whole, r := slices.Clone(list), &reckoner{}
			want := r.compensated(list)
			sum, code := impl.CompensatedSum(list)
			wantReckoned(t, r, "CompensatedSum", sum, code, want)
			if !slices.Equal(whole, list) {
				t.Errorf("CompensatedSum changed its list of %d", n)
			}
			if code != impl.ErrNone {
				continue
			}
			found++
			var plain float32
			for _, x := range list {
				plain += x
			}
			if plain != sum {
				compensated++
			}
		}
	}
	if found < 350 || compensated < 150 {
		t.Errorf("only %d sums are found, and %d of them differ from plain ones", found, compensated)
	}
}
