package tests

import (
	"slices"
	"strings"
	"testing"

	"loop.example/g01214/impl"
)

// wantText expects a text to have outputs, and to lead from the new desk to another one.
func wantText(t *testing.T, text, wantOutputs string, want impl.Desk) {
	t.Helper()
	if got := impl.Console(text); got != wantOutputs {
		t.Errorf("Console(%q) = %q, want %q", text, got, wantOutputs)
	}
	d, ok := impl.DeskAfter(text)
	if !ok || !sameDesk(d, want) || !impl.IsDesk(d) {
		t.Errorf("DeskAfter(%q) = %v, %v, want %v", text, d, ok, want)
	}
}

func wantRefusedText(t *testing.T, text string) {
	t.Helper()
	if got := impl.Console(text); got != "" {
		t.Errorf("Console(%q) = %q", text, got)
	}
	if d, ok := impl.DeskAfter(text); ok || !sameDesk(d, impl.Desk{}) {
		t.Errorf("DeskAfter(%q) = %v, %v", text, d, ok)
	}
}

func TestConsole(t *testing.T) {
	swapped := withSpinors(startDesk, down, up)
	wantText(t, "show", "3f800000,0 0,0\n", startDesk)
	wantText(t, "show\n", "3f800000,0 0,0\n", startDesk)
	wantText(t, "swap\nshow\nother", "0,0 3f800000,0\n0,0 3f800000,0\n3f800000,0 0,0\n", swapped)
	wantText(t, "swap\nfly\nnorm\n", "0,0 3f800000,0\nerror\n3f800000,0\n", swapped)
	wantText(t, "keep\nkeep\nclear\nkeep\nswap\nkeep\nreset\nkeep", "1\n2\n0\n1\n0,0 3f800000,0\n2\nok\n1\n", withPolygon(startDesk, up))
	wantText(t, "turn 1 0\napply\nsequence \ndrift\nup 1\nnorm", told(0, -1, 1, 0)+"\n"+told(0, 1)+"\n"+toldTable(unit)+"\n0,0\n"+told(0, 2)+"\n"+told(4)+"\n", withFirst(startDesk, impl.Spinor{0, 2}))
	wantText(t, "first 3f800000,0 3f800000,0\nsecond 3f800000,0 0,3f800000\ninner\npurity\ncarry", told(1, 1)+"\n"+told(1, i64)+"\n3f800000,3f800000\n41400000,0\n"+toldTable(impl.Turn{{complex(1, -1), complex(1, 1)}, {complex(-1, 1), complex(1, 1)}})+"\n",
		withTable(withSpinors(startDesk, impl.Spinor{1, 1}, impl.Spinor{1, i64}), impl.Turn{{complex(1, -1), complex(1, 1)}, {complex(-1, 1), complex(1, 1)}}))
}

func TestConsoleLeavesEmptyLinesOut(t *testing.T) {
	for _, text := range []string{"", "\n", "\n\n", strings.Repeat("\n", 39), strings.Repeat("\n", 40)} {
		wantText(t, text, "", startDesk)
	}
	for _, text := range []string{"\nkeep", "keep\n\n", "\n\n\nkeep\n\n\n", strings.Repeat("\n", 39) + "keep", strings.Repeat("\n", 39) + "keep\n", "keep" + strings.Repeat("\n", 40)} {
		wantText(t, text, "1\n", withPolygon(startDesk, up))
	}
	wantText(t, "\nkeep\n\nkeep\n\n\nkeep\n", "1\n2\n3\n", withPolygon(startDesk, up, up, up))
	// A line of blanks is not empty.
	wantText(t, " \n  \nkeep\n \n", "error\nerror\n1\nerror\n", withPolygon(startDesk, up))
}

// Only byte 10 ends a line.
func TestConsoleOfOtherBytes(t *testing.T) {
	for _, end := range []string{"\r", "\t", "\x00", "\v", "\f", " ", "\u0085", "\u2028", "\xff", ";", "\x1a", "\x1e"} {
		wantText(t, "keep"+end+"keep", "error\n", startDesk)
		wantText(t, "keep"+end+"\nkeep\n"+end+"\nkeep"+end, "error\n1\nerror\nerror\n", withPolygon(startDesk, up))
		wantText(t, end+"\n"+end+end+"\n", "error\nerror\n", startDesk)
		wantText(t, "sequence x0"+end+"\nup "+end+"0\nfirst 0,0 0,0"+end, "error\nerror\nerror\n", startDesk)
	}
	for b := range 256 {
		if b != '\n' {
			wantText(t, string([]byte{byte(b)}), "error\n", startDesk)
			wantText(t, string([]byte{byte(b), '\n', byte(b)}), "error\nerror\n", startDesk)
		}
	}
}

func TestConsoleOf40And41Lines(t *testing.T) {
	show := "3f800000,0 0,0\n"
	wantText(t, strings.Repeat("show\n", 39)+"show", strings.Repeat(show, 40), startDesk)
	wantText(t, strings.Repeat("show\n", 40), strings.Repeat(show, 40), startDesk)
	wantText(t, strings.Repeat("show\n\n", 20), strings.Repeat(show, 20), startDesk)
	wantText(t, strings.Repeat("\nfly\n", 20), strings.Repeat("error\n", 20), startDesk)
	for _, text := range []string{
		strings.Repeat("show\n", 40) + "show", strings.Repeat("show\n", 41), strings.Repeat("show\n", 40) + "\n", strings.Repeat("show\n", 40) + " ",
		strings.Repeat("\n", 40) + "show", strings.Repeat("\n", 40) + "show\n", strings.Repeat("\n", 41), strings.Repeat("show\n\n", 20) + "show", "show" + strings.Repeat("\n", 41),
		strings.Repeat("\nshow\n", 20) + "\n", strings.Repeat("fly\n", 41), strings.Repeat("\n", 42), strings.Repeat("\n", 3000), strings.Repeat("\n", 3001), strings.Repeat("\n", 296), strings.Repeat("\n", 1<<16),
	} {
		wantRefusedText(t, text)
	}
}

func TestConsoleOf3000And3001Bytes(t *testing.T) {
	sequence := "sequence " + textFor(slices.Repeat([]impl.Pulse{lastPulse, back(lastPulse)}, 30))
	full := strings.Repeat("keep\n"+sequence+"\n", 9)
	full += strings.Repeat("z", 2995-len(full)) + "\nkeep"
	d := impl.Desk{First: up, Second: down, Table: new(reckoner).tablesFor(slices.Repeat([]impl.Pulse{lastPulse, back(lastPulse)}, 30), 0)[60], Polygon: repeatedSpinor(up, 10)}
	outputs := ""
	for _, n := range []string{"1", "2", "3", "4", "5", "6", "7", "8", "9"} {
		outputs += n + "\n" + toldTable(d.Table) + "\n"
	}
	wantText(t, full, outputs+"error\n10\n", d)
	for _, more := range []string{"\n", "s", " ", "\x00", "\n\n", "\nkeep"} {
		wantRefusedText(t, full+more)
		wantRefusedText(t, more+full)
	}
	wantText(t, strings.Repeat("z", 3000), "error\n", startDesk)
	wantText(t, strings.Repeat("z", 2999)+"\n", "error\n", startDesk)
	wantText(t, "keep\n"+strings.Repeat(" ", 2995), "1\nerror\n", withPolygon(startDesk, up))
	// It is bytes that count.
	wantText(t, strings.Repeat("\u00e9", 1500), "error\n", startDesk)
	for _, text := range []string{strings.Repeat("z", 3001), strings.Repeat("z", 3000) + "\n", "keep\n" + strings.Repeat(" ", 2996), strings.Repeat("\u00e9", 1500) + "z", strings.Repeat("\u00e9", 1501), strings.Repeat("keep\n", 1<<16), strings.Repeat("z", 1<<20)} {
		wantRefusedText(t, text)
	}
}
