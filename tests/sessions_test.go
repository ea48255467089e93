package tests

import (
	"slices"
	"strconv"
	"strings"
	"testing"

	"loop.example/g01214/impl"
)

// The moods of sessions, in which other results and errors are met.
const (
	plainMood = iota
	endlessMood
	keepingMood
	moods
)

// spinorWords are the texts of the parts of a spinor.
func (s *sampler) spinorWords(mood int64) string {
	kind := s.next(8)
	if mood == endlessMood && kind > 3 {
		return toldSpinor(most)
	}
	switch kind {
	case 0:
		return toldSpinor(plainSpinors[s.next(4)])
	case 1:
		return toldSpinor(alongAxes[s.next(int64(len(alongAxes)))])
	case 2:
		return toldSpinor(s.spinors(1)[0])
	}
	return toldSpinor(s.corner())
}

// spoiled changes one byte of a line.
func (s *sampler) spoiled(line string) string {
	bytes := []byte(line)
	at, with := int(s.next(int64(len(bytes))+1)), " 0,1aA-\t\rx"[s.next(10)]
	switch {
	case s.next(2) == 0:
		bytes = slices.Insert(bytes, at, with)
	case at < len(bytes) && s.next(2) == 0:
		bytes = slices.Delete(bytes, at, at+1)
	case at < len(bytes):
		bytes[at] = with
	}
	return string(bytes)
}

func (s *sampler) countWord(most int64) string { return strconv.Itoa(int(s.next(most + 1))) }

// sessionLine is most often a right line.
func (s *sampler) sessionLine(mood int64) string {
	if mood == keepingMood && s.next(3) > 0 {
		return "keep"
	}
	switch s.next(20) {
	case 0, 1, 2:
		return "first " + s.spinorWords(mood)
	case 3, 4:
		return "second " + s.spinorWords(mood)
	case 5:
		return "up " + s.countWord(6)
	case 6:
		return "down " + s.countWord(6)
	case 7:
		return []string{"up ", "down "}[s.next(2)] + s.countWord(310)
	case 8, 9:
		return "turn " + s.countWord(3) + " " + s.countWord(26)
	case 10:
		return "sequence " + textFor(s.sequence(int(s.next(5))))
	case 11:
		return "sequence " + s.nearlySequence()
	case 12:
		lines := allLines()
		return s.spoiled(lines[s.next(int64(len(lines)))])
	case 13:
		return ""
	case 14:
		return "keep"
	}
	return plainCommands[s.next(int64(len(plainCommands)))]
}

// session has n lines, and the text of them without the last newline.
func (s *sampler) session(n int64) ([]string, string) {
	var lines []string
	mood := s.next(moods)
	for range n {
		lines = append(lines, s.sessionLine(mood))
	}
	return lines, strings.Join(lines, "\n")
}

// Each command comes with results and, where it has any, with errors.
func wantBothOutcomes(t *testing.T, found map[string][2]int) {
	t.Helper()
	for _, line := range allLines() {
		command, _, _ := strings.Cut(line, " ")
		count := found[command]
		never := slices.Contains([]string{"swap", "opposite", "show", "other", "table", "unit", "adjoint", "clear", "reset"}, command)
		if count[0] < 100 || never == (count[1] >= 5) {
			t.Errorf("%s: %d results, %d errors", command, count[0], count[1])
		}
	}
}

func TestSessionsExactly(t *testing.T) {
	s := &sampler{state: 202}
	found := map[string][2]int{}
	for range 3000 {
		d := startDesk
		lines, _ := s.session(40)
		for _, line := range lines {
			want, wantOutput := new(reckoner).ranLine(d, line)
			wantLine(t, d, line, want, wantOutput)
			command, _, _ := strings.Cut(line, " ")
			if count := found[command]; wantOutput == "error" {
				found[command] = [2]int{count[0], count[1] + 1}
			} else {
				found[command] = [2]int{count[0] + 1, count[1]}
			}
			d = want
		}
	}
	wantBothOutcomes(t, found)
}

// All lines are run on desks of all kinds.
func TestLinesOnAnyDeskExactly(t *testing.T) {
	s := &sampler{state: 203}
	for _, d := range s.desks() {
		for _, line := range slices.Concat(allLines(), []string{"up 277", "down 150", "turn 2 1", "turn 0 24", "first 0,0", "keep ", s.sessionLine(plainMood), s.sessionLine(endlessMood)}) {
			want, wantOutput := new(reckoner).ranLine(d, line)
			wantLine(t, d, line, want, wantOutput)
		}
	}
}

// Promise 11: lines lead from desks to desks, and the console joins their outputs.
func TestConsoleJoinsOutputs(t *testing.T) {
	s := &sampler{state: 204}
	for range samples / 4 {
		lines, text := s.session(s.next(41))
		if len(text) >= impl.MaxConsole {
			continue
		}
		d, outputs := startDesk, ""
		for _, line := range lines {
			if line == "" {
				continue
			}
			next, output := impl.RunLine(d, line)
			if !impl.IsDesk(next) || output == "" || strings.Contains(output, "\n") {
				t.Fatalf("RunLine(%v, %q) = %v, %q", d, line, next, output)
			}
			d, outputs = next, outputs+output+"\n"
		}
		wantText(t, text, outputs, d)
		if text != "" && !strings.HasSuffix(text, "\n") {
			wantText(t, text+"\n", outputs, d)
		}
	}
}

// The guarantee of chapter 11: a line with the output error changes nothing, so that the others lead
// to the same desk without it.
func TestLinesWithErrorsChangeNothing(t *testing.T) {
	s := &sampler{state: 205}
	wrong := 0
	for range samples / 4 {
		lines, text := s.session(40)
		if len(text) > impl.MaxConsole {
			continue
		}
		var right []string
		d := startDesk
		for _, line := range lines {
			next, output := impl.RunLine(d, line)
			if output == "error" {
				if !sameDesk(next, d) {
					t.Fatalf("RunLine(%v, %q) = %v, %q", d, line, next, output)
				}
				wrong++
				continue
			}
			right = append(right, line)
			d = next
		}
		after, ok := impl.DeskAfter(text)
		if rest, okRest := impl.DeskAfter(strings.Join(right, "\n")); !ok || !okRest || !sameDesk(after, rest) || !sameDesk(after, d) {
			t.Fatalf("DeskAfter(%q) = %v, %v, but without wrong lines %v, %v", text, after, ok, rest, okRest)
		}
	}
	if wrong < samples {
		t.Errorf("only %d lines are wrong", wrong)
	}
}
