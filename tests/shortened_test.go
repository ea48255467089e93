package tests

import (
	"slices"
	"testing"

	"loop.example/g01214/impl"
)

// parsed returns the sequence with a text.
func parsed(t *testing.T, text string) []impl.Pulse {
	t.Helper()
	list, code := impl.ParseSequence(text)
	if code != impl.ErrNone {
		t.Fatalf("ParseSequence(%q): code %d", text, code)
	}
	return list
}

func TestShortenSequence(t *testing.T) {
	cases := [][2]string{
		{"", ""},
		{"x0", "x0"},
		{"-z24", "-z24"},
		{"x2 -y0", "x2 -y0"},
		{"x2 x2 -x1", ""},
		{"x0 x0 y1 y1", "x0 x0 y0"},
		// Pulses without halvings are taken away only in pairs.
		{"x0 x0", "x0 x0"},
		{"-x0 -x0", "-x0 -x0"},
		{"x0 -x0", ""},
		{"-x0 x0", ""},
		{"x0 x0 x0 -x0", "x0 x0"},
		{"-x0 x0 x0", "x0"},
		{"x1 x1 x0", "x0 x0"},
		{"-x1 -x1 -x0", "-x0 -x0"},
		{"x1 x1", "x0"},
		{"-x1 -x1", "-x0"},
		{"z24 z24", "z23"},
		{"-z24 z24", ""},
		// Neither another axis, nor other halvings.
		{"x1 y1", "x1 y1"},
		{"x1 x2", "x1 x2"},
		{"x2 x1", "x2 x1"},
		{"x1 -y1", "x1 -y1"},
		{"x1 -x2", "x1 -x2"},
		{"x2 -x1", "x2 -x1"},
		{"x1 y1 -x1", "x1 y1 -x1"},
		// Several pairs at once: the first one is taken.
		{"x1 x1 x1", "x0 x1"},
		{"x2 x2 x2", "x1 x2"},
		{"-x2 -x2 -x2", "-x1 -x2"},
		{"x1 -x1 x1", "x1"},
		{"-x1 x1 -x1", "-x1"},
		{"x1 -x1 -x1", "-x1"},
		{"x1 x1 -x1", "x0 -x1"},
		{"x2 x2 -x2", "x1 -x2"},
		{"-x2 x2 x2", "x2"},
		{"x1 x1 y1 y1 z1 z1", "x0 y0 z0"},
		{"x2 x2 x2 x2", "x0"},
		{"x2 x2 x2 x2 x2", "x0 x2"},
		{"x0 x0 x1 x1 -x0", "x0 x0"},
		{"x0 x0 -x0 -x0", ""},
		// Pairs that arise only by shortening, further ahead or further behind.
		{"x1 x2 x2", "x0"},
		{"x2 x2 x1", "x0"},
		{"x1 x2 x3 x4 x4", "x0"},
		{"y1 x1 -x1 y1", "y0"},
		{"y1 x1 -x1 -y1", ""},
		{"z2 y1 x1 -x1 -y1 z2 z1", "z0"},
		{"x3 y2 y3 y3 -y1 x3", "x2"},
		{"x1 y0 -y0 x1 -x0 z1", "z1"},
		{"x0 y1 -y1 x0", "x0 x0"},
		{"x0 x1 x1 y1 -y1 -x0 z0", "x0 z0"},
	}
	for _, c := range cases {
		list, code := impl.ShortenSequence(parsed(t, c[0]))
		wantList(t, "ShortenSequence of "+c[0], list, code, parsed(t, c[1]))
	}
}

func TestShortenSequenceOfManyPulses(t *testing.T) {
	list, code := impl.ShortenSequence(slices.Repeat([]impl.Pulse{x0}, 60))
	wantList(t, "ShortenSequence", list, code, slices.Repeat([]impl.Pulse{x0}, 60))
	list, code = impl.ShortenSequence(slices.Repeat([]impl.Pulse{x0, back(x0)}, 30))
	wantList(t, "ShortenSequence", list, code, nil)
	list, code = impl.ShortenSequence(slices.Repeat([]impl.Pulse{lastPulse}, 60))
	wantList(t, "ShortenSequence", list, code, parsed(t, "-z19 -z20 -z21 -z22"))
	list, code = impl.ShortenSequence(slices.Repeat([]impl.Pulse{x1}, 60))
	wantList(t, "ShortenSequence", list, code, slices.Repeat([]impl.Pulse{x0}, 30))
	list, code = impl.ShortenSequence(slices.Repeat([]impl.Pulse{x1}, 61))
	wantNoList(t, "ShortenSequence", list, code, impl.ErrInvalid)
	opened := slices.Repeat([]impl.Pulse{x2, y1, lastPulse}, 10)
	closed, _ := impl.InverseSequence(opened)
	list, code = impl.ShortenSequence(slices.Concat(opened, closed))
	wantList(t, "ShortenSequence", list, code, nil)
}

func TestShortenSequenceOfAnySequence(t *testing.T) {
	s := &sampler{state: 84}
	changed := 0
	for range samples {
		list := s.alike(int(s.next(61)))
		want := shortenedFor(list)
		shortened, code := impl.ShortenSequence(list)
		wantList(t, "ShortenSequence", shortened, code, want)
		if len(want) < len(list)-2 {
			changed++
		}
		again, code := impl.ShortenSequence(shortened)
		wantList(t, "ShortenSequence, twice,", again, code, want)
	}
	if changed < samples/2 {
		t.Errorf("only %d of %d sequences say something", changed, samples)
	}
}

// Promise 5: shortened sequences have the same angles.
func TestShortenedSequencesHaveTheSameAngles(t *testing.T) {
	s := &sampler{state: 85}
	shorter := 0
	for range samples {
		list := s.alike(int(s.next(61)))
		angles, code := impl.AnglesOf(list)
		wantList(t, "AnglesOf", angles, code, anglesFor(list))
		shortened, code := impl.ShortenSequence(list)
		if code != impl.ErrNone || len(shortened) > len(list) {
			t.Errorf("ShortenSequence(%v) = %v, %d", list, shortened, code)
		}
		again, code := impl.AnglesOf(shortened)
		wantList(t, "AnglesOf, shortened,", again, code, angles)
		if len(shortened) < len(list) {
			shorter++
		}
	}
	if shorter < samples/2 {
		t.Errorf("only %d of %d sequences say something", shorter, samples)
	}
}
