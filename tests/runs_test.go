package tests

import (
	"slices"
	"testing"

	"loop.example/g01214/impl"
)

func TestRunSequence(t *testing.T) {
	most := complex64(complex(greatest, -greatest))
	cases := []struct {
		text string
		s    impl.Spinor
		want []impl.Spinor
	}{
		{"", impl.Spinor{1, 2}, nil},
		{"", impl.Spinor{most, most}, nil},
		{"", impl.Spinor{minusPair, minusPair}, nil},
		{"y0 y0", impl.Spinor{1, 0}, []impl.Spinor{{0, 1}, {-1, 0}}},
		{"x0 -y0 z0", impl.Spinor{1, i64}, []impl.Spinor{{1, -i64}, {-i64, -1}, {-1, -i64}}},
		{"-x0 -z0", impl.Spinor{2, 0}, []impl.Spinor{{0, 2 * i64}, {0, 2}}},
		{"x0 z0", impl.Spinor{most, complex(at(1), 0)}, []impl.Spinor{{complex(0, -at(1)), complex(-greatest, -greatest)}, {complex(-at(1), 0), complex(greatest, -greatest)}}},
		{"y0 x3 z24", impl.Spinor{}, []impl.Spinor{{}, {}, {}}},
	}
	for _, c := range cases {
		run, code := impl.RunSequence(parsed(t, c.text), c.s)
		wantList(t, "RunSequence of "+c.text, run, code, append([]impl.Spinor{c.s}, c.want...))
	}
}

func TestRunSequenceRefusesWhatIsNoSpinor(t *testing.T) {
	for _, bad := range badSpinors() {
		for _, list := range [][]impl.Pulse{nil, {x0}, {x1, y1}, slices.Repeat([]impl.Pulse{lastPulse}, 60)} {
			run, code := impl.RunSequence(list, bad)
			wantNoList(t, "RunSequence", run, code, impl.ErrInvalid)
		}
	}
}

func TestRunSequenceAtTheLimit(t *testing.T) {
	most := complex64(greatest)
	for _, text := range []string{"y1", "-y1 x0", "y0 y1", "x0 z0 y1", "y0 y0 y1 -y1", "z0 x1"} {
		for _, s := range []impl.Spinor{{most, most}, {most, -most}, {i64 * most, most}, {complex(greatest, greatest), -complex(greatest, greatest)}} {
			r := &reckoner{}
			want := r.runFor(parsed(t, text), s)
			run, code := impl.RunSequence(parsed(t, text), s)
			if r.failed {
				wantNoList(t, "RunSequence of "+text, run, code, impl.ErrLimit)
			} else {
				wantList(t, "RunSequence of "+text, run, code, want)
			}
		}
	}
	run, code := impl.RunSequence(parsed(t, "-y1"), impl.Spinor{most, most})
	wantNoList(t, "RunSequence", run, code, impl.ErrLimit)
	run, code = impl.RunSequence(slices.Concat(slices.Repeat([]impl.Pulse{y0}, 56), parsed(t, "-y1 y1 y1 y1")), impl.Spinor{most, most})
	wantNoList(t, "RunSequence", run, code, impl.ErrLimit)
}

func TestRunSequenceExactly(t *testing.T) {
	s := &sampler{state: 89}
	found := 0
	for _, list := range longSequences(s) {
		for _, spinor := range s.spinors(5) {
			r := &reckoner{}
			want := r.runFor(list, spinor)
			run, code := impl.RunSequence(list, spinor)
			if r.failed {
				wantNoList(t, "RunSequence of "+textFor(list), run, code, impl.ErrLimit)
			} else {
				wantList(t, "RunSequence of "+textFor(list), run, code, want)
				found++
			}
		}
	}
	if found < 300 {
		t.Errorf("only %d runs say something", found)
	}
}

// The last spinor of a run is that of the runs of its parts, one after the other.
func TestRunsOfParts(t *testing.T) {
	s := &sampler{state: 90}
	for _, list := range goodSequences() {
		for _, spinor := range s.spinors(2) {
			whole, code := impl.RunSequence(list, spinor)
			if code != impl.ErrNone {
				continue
			}
			cut := s.next(int64(len(list)) + 1)
			first, codeFirst := impl.RunSequence(list[:cut], spinor)
			wantList(t, "RunSequence of the first part", first, codeFirst, whole[:cut+1])
			second, codeSecond := impl.RunSequence(list[cut:], first[cut])
			wantList(t, "RunSequence of the second part", second, codeSecond, whole[cut:])
		}
	}
}
