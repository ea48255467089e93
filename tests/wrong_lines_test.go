package tests

import (
	"strings"
	"testing"

	"loop.example/g01214/impl"
)

// wantWrongEverywhere expects a line to be wrong on any desk.
func wantWrongEverywhere(t *testing.T, line string) {
	t.Helper()
	for _, d := range []impl.Desk{startDesk, busyDesk(), {}} {
		wantWrong(t, d, line)
	}
}

func TestLinesThatAreNoCommands(t *testing.T) {
	for _, line := range []string{
		"", " ", "  ", "\n", "\r", "\t", "\x00", "0", "error", "ok", "fly", "help", "-", "3f800000,0", "x0",
		"first", "second", "up", "down", "turn", "sequence", "first second", "up down", "\xff", "\u00e9", "swap\u00a0", "\u200bswap", "ſwap",
	} {
		wantWrongEverywhere(t, line)
	}
}

// Only blanks split a line, and each of them does.
func TestLinesOfOneWord(t *testing.T) {
	for _, c := range plainCommands {
		for _, line := range []string{
			c + " ", " " + c, " " + c + " ", c + "  ", c + " 0", c + " 1", c + " " + c, c + " 0,0", c + " 0,0 0,0",
			c + c, c[1:], c[:len(c)-1], c + "s", strings.ToUpper(c), strings.ToUpper(c[:1]) + c[1:], c[:len(c)-1] + strings.ToUpper(c[len(c)-1:]),
			c + "\n", "\n" + c, c + "\r", c + "\t", "\t" + c, c + "\x00", c + "\x000", c + "\n" + c, c + "\t0", c + ",", c + "\xff", c + "\u00a0",
		} {
			wantWrongEverywhere(t, line)
		}
	}
}

func TestLinesOfSeveralWords(t *testing.T) {
	for _, line := range wordyLines {
		command, rest, _ := strings.Cut(line, " ")
		last := strings.LastIndex(line, " ")
		for _, wrong := range []string{
			command, line + " ", " " + line, command + "  " + rest, line[:last] + "  " + line[last+1:], command + rest,
			strings.ToUpper(command) + " " + rest, command[:1] + strings.ToUpper(command[1:]) + " " + rest, command + "s " + rest, command[1:] + " " + rest,
			command + "\t" + rest, command + "\n" + rest, line[:last] + "\t" + line[last+1:], line[:last] + "\n" + line[last+1:], command + "\u00a0" + rest,
			line + "\n", line + "\r", line + "\t", line + "\x00", "\x00" + line, "\n" + line, line + "\xff", line + "  ", line + " 0", line + " 0,0",
			rest, rest + " " + command, command + " " + line, command + " \"" + rest + "\"", command + "," + rest, command + " " + strings.ReplaceAll(rest, " ", ","),
		} {
			if wrong != line {
				wantWrongEverywhere(t, wrong)
			}
		}
	}
}

// A word is missing, empty, or one too many.
func TestLinesOfOtherNumbersOfWords(t *testing.T) {
	for _, command := range []string{"first", "second"} {
		for _, rest := range []string{"", " ", "  ", "0,0", "0,0 ", " 0,0", "0,0  0,0", " 0,0 0,0", "0,0 0,0 ", "0,0 0,0 0,0", "0,0 0,0  ", "0,0 0,0 0", "0,0,0,0", "0 0 0 0"} {
			wantWrongEverywhere(t, command+" "+rest)
		}
	}
	for _, command := range []string{"up", "down"} {
		for _, rest := range []string{"", " ", "  ", " 1", "1 ", "1 1", "1  ", "  1"} {
			wantWrongEverywhere(t, command+" "+rest)
		}
	}
	for _, rest := range []string{"", " ", "  ", "1", "1 ", " 1", "1  1", " 1 1", "1 1 ", "1 1 1", "1 1  ", "0,1", "1,1", "11"} {
		wantWrongEverywhere(t, "turn "+rest)
	}
}

func TestWordsThatAreNoComplexNumbers(t *testing.T) {
	for _, word := range []string{
		"0", "1", "", ",", "0,", ",0", "0,0,", "0,0,0", "00,0", "0,00", "-0,0", "0,-0", "+1,0", "0,+1", "01,0", "-01,0", "--1,0", "0,1-",
		"3F800000,0", "0,A", "g,0", "0x1,0", "1_0,0", "1.,0", "0;0", "7f800000,0", "0,-7f800000", "7f800001,0", "ffffffff,0", "0,80000000",
		"100000000,0", "0,-10000000000000000", "inf,0", "0,nan", "0,0\n", "\t0,0", "0,0\r", "0,0\x00", "0,0i", "(0,0)", strings.Repeat("0", 50) + ",0", "0," + strings.Repeat("f", 500),
	} {
		for _, command := range []string{"first ", "second "} {
			wantWrongEverywhere(t, command+word+" 0,0")
			wantWrongEverywhere(t, command+"0,0 "+word)
			wantWrongEverywhere(t, command+word+" "+word)
		}
	}
}

// noCounts are no numbers of at least 0 in decimal with at most nine digits.
var noCounts = []string{
	"", "-", "+", "00", "01", "007", "+0", "+1", "-0", "-1", "-01", "0.", "1.0", "1e1", "0x1", "0b1", "0o1", "1_0", "a", "1a", "a1", "1,0", "0,0", "\u0661", "\uff11", "²",
	"1\n", "\t1", "1\r", "1\x00", "1000000000", "0000000001", "9999999999", "4294967296", "4294967297", "9223372036854775807", "9223372036854775808",
	"18446744073709551616", "18446744073709551617", "-18446744073709551615", strings.Repeat("0", 60), "1" + strings.Repeat("0", 60),
}

func TestWordsThatAreNoCounts(t *testing.T) {
	for _, word := range noCounts {
		for _, line := range []string{"up " + word, "down " + word, "turn 0 " + word, "turn " + word + " 0", "turn " + word + " " + word} {
			wantWrongEverywhere(t, line)
		}
	}
}

// These are counts, but greater than the functions take.
func TestCountsThatAreTooGreat(t *testing.T) {
	for _, word := range []string{"301", "302", "999", "1000", "65536", "16777216", "99999999", "100000000", "999999999"} {
		for _, line := range []string{"up " + word, "down " + word, "turn 0 " + word, "turn " + word + " 0"} {
			wantWrongEverywhere(t, line)
		}
	}
	for _, line := range []string{"turn 3 0", "turn 0 25", "turn 3 25", "turn 4 1", "turn 2 26", "turn 256 0", "turn 0 256", "turn 24 2"} {
		wantWrongEverywhere(t, line)
	}
}

// wrongOn has desks for each function that a command calls with which it returns a code.
func wrongOn() map[string][]impl.Desk {
	d := busyDesk()
	onFirst := func(list ...impl.Spinor) []impl.Desk {
		var desks []impl.Desk
		for _, s := range list {
			desks = append(desks, withFirst(d, s))
		}
		return desks
	}
	onTable := func(list ...impl.Turn) []impl.Desk {
		var desks []impl.Desk
		for _, a := range list {
			desks = append(desks, withTable(d, a))
		}
		return desks
	}
	big, half, tiny := impl.Spinor{two(64), 0}, impl.Spinor{two(63), two(63)}, impl.Spinor{two(-75), two(-75)}
	full, wide := impl.Turn{most, most}, impl.Spinor{1.5 * two(63), 1.5 * two(63)}
	return map[string][]impl.Desk{
		"renew":      onFirst(impl.Spinor{}, tiny, big, most, impl.Spinor{minusPair, minusPair}),
		"free":       onFirst(impl.Spinor{}, tiny, big, most, impl.Spinor{0, two(-75)}, impl.Spinor{complex(1, 1), complex(greatest, greatest)}),
		"add":        {withSpinors(d, most, most), withSpinors(d, impl.Spinor{0, -i64 * two(127)}, impl.Spinor{0, -i64 * two(127)})},
		"up 1":       onFirst(most, impl.Spinor{0, complex(0, -greatest)}),
		"up 128":     onFirst(up, down, impl.Spinor{0, -i64}),
		"up 300":     onFirst(impl.Spinor{complex(at(1), 0), 0}, most),
		"inner":      {withSpinors(d, big, big), withSpinors(d, most, impl.Spinor{1, 1}), withSpinors(d, impl.Spinor{2, 0}, most)},
		"transition": {withSpinors(d, big, big), withSpinors(d, big, up), withSpinors(d, impl.Spinor{two(32), 0}, impl.Spinor{two(32), 0})},
		"vector":     onFirst(big, most, wide),
		"norm":       onFirst(big, most, impl.Spinor{0, two(64)}, wide),
		"turn 0 1":   onTable(impl.Turn{{greatest, 0}, {complex(0, greatest), 0}}, impl.Turn{{0, complex(greatest, greatest)}, {0, complex(greatest, -greatest)}}),
		"fix":        onTable(impl.Turn{}, impl.Turn{{}, {1, 1}}, impl.Turn{tiny, up}, impl.Turn{big, up}, full),
		"drift":      onTable(full, impl.Turn{big, down}, impl.Turn{{1, 1}, {greatest, -greatest}}),
		"apply":      append(onTable(full), withTable(withFirst(d, wide), impl.Turn{{0, 0}, wide}), withTable(withFirst(d, most), impl.Turn{{2, 0}, {}})),
		"carry":      {withSpinors(d, most, most), withSpinors(d, big, big), withSpinors(d, big, impl.Spinor{0, two(64)}), withSpinors(d, half, impl.Spinor{two(64), two(64)})},
		"purity":     {withSpinors(d, most, up), withSpinors(d, up, most), withSpinors(d, impl.Spinor{two(31), 0}, impl.Spinor{two(32), 0}), withSpinors(d, half, up)},
		"keep":       {withPolygon(d, repeatedSpinor(most, 24)...), withPolygon(d, repeatedSpinor(up, 24)...)},
	}
}

// wrongPolygons has lists for each command of the list with which it is wrong.
func wrongPolygons() map[string][][]impl.Spinor {
	var shared [][]impl.Spinor
	for _, s := range []impl.Spinor{{}, {minusPair, 0}, {two(-75), 0}, {two(64), 0}, most} {
		shared = append(shared, []impl.Spinor{s}, []impl.Spinor{s, s}, []impl.Spinor{up, s}, repeatedSpinor(s, 12))
	}
	shared = append(shared, nil, []impl.Spinor{up, down}, []impl.Spinor{down, {1, 1}, up}, []impl.Spinor{{1, i64}, {i64, 1}})
	long := [][]impl.Spinor{repeatedSpinor(up, 13), repeatedSpinor(up, 24), repeatedSpinor(impl.Spinor{}, 13)}
	return map[string][][]impl.Spinor{
		"phase":   append(shared, repeatedSpinor(impl.Spinor{two(16), 0}, 24)),
		"closing": shared,
		"refine":  append(long, shared...),
	}
}

// A function that returns a code leaves the desk as it is in all its parts.
func TestErrorsOfFunctions(t *testing.T) {
	for line, desks := range wrongOn() {
		for _, d := range desks {
			wantWrong(t, d, line)
		}
	}
	for line, polygons := range wrongPolygons() {
		for _, list := range polygons {
			wantWrong(t, withPolygon(busyDesk(), list...), line)
		}
	}
}

// The other functions have no error on a desk.
func TestCommandsThatAreNeverWrong(t *testing.T) {
	s := &sampler{state: 200}
	for _, d := range s.desks() {
		for _, line := range []string{"swap", "opposite", "show", "other", "table", "unit", "adjoint", "clear", "reset", "down 3", "down 0", "down 300", "up 0", "first 0,0 0,0", "second 1,1 1,1", "sequence x2"} {
			if next, output := impl.RunLine(d, line); output == "error" || !impl.IsDesk(next) {
				t.Errorf("RunLine(%v, %q) = %v, %q", d, line, next, output)
			}
		}
	}
}
