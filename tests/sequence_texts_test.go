package tests

import (
	"regexp"
	"slices"
	"strconv"
	"strings"
	"testing"

	"loop.example/g01214/impl"
)

func TestSequenceText(t *testing.T) {
	cases := []struct {
		list []impl.Pulse
		want string
	}{
		{nil, ""},
		{[]impl.Pulse{}, ""},
		{[]impl.Pulse{x0}, "x0"},
		{[]impl.Pulse{x2, back(y0)}, "x2 -y0"},
		{[]impl.Pulse{lastPulse, {Axis: 1, Halvings: 10}}, "-z24 y10"},
		{[]impl.Pulse{back(x0), back(x0), z0}, "-x0 -x0 z0"},
	}
	for _, c := range cases {
		text, code := impl.SequenceText(c.list)
		wantValue(t, "SequenceText", text, code, c.want)
		list, code := impl.ParseSequence(c.want)
		wantList(t, "ParseSequence", list, code, c.list)
	}
}

func TestTextsOfAllPulses(t *testing.T) {
	for axis := range int64(3) {
		for halvings := range int64(25) {
			for _, turned := range []bool{false, true} {
				p := []impl.Pulse{{Axis: axis, Halvings: halvings, Back: turned}}
				text, code := impl.SequenceText(p)
				wantValue(t, "SequenceText", text, code, textFor(p))
				list, code := impl.ParseSequence(textFor(p))
				wantList(t, "ParseSequence", list, code, p)
			}
		}
	}
}

// Promise 5: sequences come back from their texts.
func TestSequencesComeBack(t *testing.T) {
	for _, list := range goodSequences() {
		text, code := impl.SequenceText(list)
		wantValue(t, "SequenceText", text, code, textFor(list))
		again, code := impl.ParseSequence(text)
		wantList(t, "ParseSequence", again, code, list)
	}
}

func wantSyntaxError(t *testing.T, text string) {
	t.Helper()
	list, code := impl.ParseSequence(text)
	wantNoList(t, "ParseSequence of "+strconv.Quote(text), list, code, impl.ErrSyntax)
}

func TestParseSequenceRefuses(t *testing.T) {
	for _, word := range []string{
		"x", "-", "-x", "0", "-0", "12", "w1", "a0", "X1", "Z0", "xx", "xx1", "x1x1", "xy", "1x", "0x", "x1y2",
		"x00", "x01", "x007", "y024", "-x00", "-x01", "--x1", "---z2", "+x1", "x-1", "x-0", "x+0", "x+1", "-x-1", "- x1",
		"x25", "x26", "x30", "x99", "x100", "x240", "x2147483648", "x4294967296", "x9223372036854775807", "x18446744073709551616",
		"x18446744073709551617", "x340282366920938463463374607431768211456", "x1" + strings.Repeat("0", 100), "x" + strings.Repeat("9", 5000),
		"x" + strings.Repeat("0", 5000) + "1", "x-9223372036854775808", "x1.0", "x1e0", "x0x1", "x0b1", "x1_0", "x_1", "xa", "x1a", "x 1", "x\x00",
		"x1,", "x1;", "x1.", "(x1)", "x\u0661", "\u0078\u0301", "\uff58\uff11", "\u2212x1", "x1\xff", "\xff", "x1\n", "\nx1", "x1\t", "\tx1", "x1\r",
	} {
		wantSyntaxError(t, word)
		wantSyntaxError(t, word+" y2")
		wantSyntaxError(t, "y2 "+word)
		wantSyntaxError(t, "y2 "+word+" -z0")
	}
}

func TestParseSequenceRefusesBlanks(t *testing.T) {
	for _, text := range []string{
		" ", "  ", "   ", "x1 ", " x1", " x1 ", "x1  y2", "x1   y2", "x1 y2 ", " x1 y2", "x1\ty2", "x1\ny2", "x1\u00a0y2", "x1,y2", "x1y2", "x1 - y2", "x1 -",
	} {
		wantSyntaxError(t, text)
	}
}

func TestParseSequenceOf60And61Pulses(t *testing.T) {
	for _, p := range []impl.Pulse{x0, lastPulse} {
		list := slices.Repeat([]impl.Pulse{p}, 60)
		again, code := impl.ParseSequence(textFor(list))
		wantList(t, "ParseSequence", again, code, list)
		for _, n := range []int{61, 62, 120, 10000} {
			wantSyntaxError(t, textFor(slices.Repeat([]impl.Pulse{p}, n)))
		}
		wantSyntaxError(t, textFor(list)+" ")
		wantSyntaxError(t, textFor(list)+" w")
		wantSyntaxError(t, " "+textFor(list))
	}
}

var sequenceText = regexp.MustCompile(`^(-?[xyz](\d|1\d|2[0-4])( -?[xyz](\d|1\d|2[0-4]))*)?$`)

// Each text is that of a sequence, or there is none with it.
func TestParseSequenceOfAnyText(t *testing.T) {
	s := &sampler{state: 83}
	found := 0
	for range 20 * samples {
		text := s.nearlySequence()
		if !sequenceText.MatchString(text) {
			wantSyntaxError(t, text)
			continue
		}
		list, code := impl.ParseSequence(text)
		again, codeAgain := impl.SequenceText(list)
		if code != impl.ErrNone || !impl.IsSequence(list) || again != text || codeAgain != impl.ErrNone {
			t.Errorf("ParseSequence(%q) = %v, %d", text, list, code)
		}
		found++
	}
	if found < samples || found > 19*samples {
		t.Errorf("%d of %d texts are good", found, 20*samples)
	}
}

// nearlySequence is a text of bytes that may come one after the other in texts of sequences.
func (s *sampler) nearlySequence() string {
	var text []byte
	for range s.next(5) {
		text = append(text, textFor([]impl.Pulse{s.pulse(2, 24)})...)
		text = append(text, ' ')
	}
	text = text[:max(len(text)-1, 0)]
	for range s.next(3) {
		at, with := s.next(int64(len(text))+1), "xyzw-+ 0123456789"[s.next(17)]
		if s.next(2) == 0 {
			text = slices.Insert(text, int(at), with)
		} else if at < int64(len(text)) {
			text[at] = with
		}
	}
	return string(text)
}
