package tests

import (
	"math"
	"regexp"
	"slices"
	"strconv"
	"strings"
	"testing"

	"loop.example/g01214/impl"
)

// The functions of this file follow chapter 11 of the document: lines with words are told apart by
// patterns, and what all lines do is found with the reckoner.

const (
	complexPattern  = `(0|-?[1-9a-f][0-9a-f]{0,7}),(0|-?[1-9a-f][0-9a-f]{0,7})`
	shiftPattern    = `([0-9]|[1-9][0-9]|[12][0-9][0-9]|300)`
	halvingsPattern = `([0-9]|1[0-9]|2[0-4])`
)

var (
	spinorLine   = regexp.MustCompile(`^(first|second) ` + complexPattern + ` ` + complexPattern + `$`)
	shiftLine    = regexp.MustCompile(`^(up|down) ` + shiftPattern + `$`)
	turnLine     = regexp.MustCompile(`^turn ([012]) ` + halvingsPattern + `$`)
	sequenceLine = regexp.MustCompile(`^sequence (.*)$`)
)

func numberText(x float32) string {
	bits := math.Float32bits(x)
	text := strconv.FormatUint(uint64(bits&math.MaxInt32), 16)
	if bits>>31 == 1 && text != "0" {
		return "-" + text
	}
	return text
}

// told has the texts of complex numbers with blanks between.
func told(entries ...complex64) string {
	var words []string
	for _, z := range entries {
		words = append(words, numberText(real(z))+","+numberText(imag(z)))
	}
	return strings.Join(words, " ")
}

func toldNumber(x float32) string { return told(complex(x, 0)) }

func toldSpinor(s impl.Spinor) string { return told(s[0], s[1]) }

func toldTable(a impl.Turn) string { return told(a[0][0], a[0][1], a[1][0], a[1][1]) }

func toldVector(v impl.Vector) string {
	return told(complex(v[0], 0), complex(v[1], 0), complex(v[2], 0))
}

// numbersIn reads texts that the pattern has let through; only their places may still be too great.
func numbersIn(texts []string) ([]float32, bool) {
	var list []float32
	for _, text := range texts {
		place, err := strconv.ParseInt(text, 16, 64)
		if err != nil || max(place, -place) > impl.MaxPlace {
			return nil, false
		}
		list = append(list, at(place))
	}
	return list, true
}

func (r *reckoner) shifted(s impl.Spinor, k int) impl.Spinor {
	part := func(x float32) float32 { return r.once(exactProduct(exactOf(x), exactPower(k))) }
	return impl.Spinor{complex(part(real(s[0])), part(imag(s[0]))), complex(part(real(s[1])), part(imag(s[1])))}
}

func (r *reckoner) renewed(s impl.Spinor) impl.Spinor {
	norm := r.root(r.normSquare(s))
	return impl.Spinor{r.parts(s[0], norm), r.parts(s[1], norm)}
}

func (r *reckoner) freed(s impl.Spinor) (impl.Spinor, complex64) {
	lead := s[0]
	if lead == 0 {
		lead = s[1]
	}
	size := r.root(r.square(lead))
	phase := r.parts(lead, size)
	if s[0] == 0 {
		return impl.Spinor{0, complex(size, 0)}, phase
	}
	return impl.Spinor{complex(size, 0), r.product(mirrored(phase), s[1])}, phase
}

// ranLine returns the desk after a line, and the output.
func (r *reckoner) ranLine(d impl.Desk, line string) (impl.Desk, string) {
	for _, try := range []func(*impl.Desk, string) (string, bool){r.didWords, r.didSpinors, r.didTable, r.didPolygon, r.didTell} {
		next := copyOfDesk(d)
		if output, ok := try(&next, line); ok && !r.failed {
			return next, output
		}
	}
	return copyOfDesk(d), "error"
}

// didWords and the next functions change a desk by a line, or they do not know the line. A line of
// theirs that is wrong in another way makes the reckoner fail, or is told to be unknown, too.
func (r *reckoner) didWords(d *impl.Desk, line string) (string, bool) {
	if words := spinorLine.FindStringSubmatch(line); words != nil {
		x, ok := numbersIn(words[2:])
		if !ok {
			return "", false
		}
		s := impl.Spinor{complex(x[0], x[1]), complex(x[2], x[3])}
		if words[1] == "first" {
			d.First = s
		} else {
			d.Second = s
		}
		return toldSpinor(s), true
	}
	if words := shiftLine.FindStringSubmatch(line); words != nil {
		k, _ := strconv.Atoi(words[2])
		if words[1] == "down" {
			k = -k
		}
		d.First = r.shifted(d.First, k)
		return toldSpinor(d.First), true
	}
	if words := turnLine.FindStringSubmatch(line); words != nil {
		k, _ := strconv.Atoi(words[2])
		by := tableFor(impl.Pulse{Axis: int64(words[1][0] - '0'), Halvings: int64(k)})
		d.Table = r.turns(by, d.Table)
		return toldTable(d.Table), true
	}
	if words := sequenceLine.FindStringSubmatch(line); words != nil {
		list, ok := pulsesIn(words[1])
		if ok {
			d.Table = r.tablesFor(list, 0)[len(list)]
		}
		return toldTable(d.Table), ok
	}
	return "", false
}

func pulsesIn(text string) ([]impl.Pulse, bool) {
	if !sequenceText.MatchString(text) {
		return nil, false
	}
	var list []impl.Pulse
	for _, word := range strings.Fields(text) {
		letter := strings.TrimPrefix(word, "-")
		k, _ := strconv.Atoi(letter[1:])
		list = append(list, impl.Pulse{Axis: int64(letter[0] - 'x'), Halvings: int64(k), Back: letter != word})
	}
	return list, len(list) <= 60
}

func (r *reckoner) didSpinors(d *impl.Desk, line string) (string, bool) {
	switch line {
	case "swap":
		d.First, d.Second = d.Second, d.First
	case "renew":
		d.First = r.renewed(d.First)
	case "opposite":
		d.First = oppositeFor(d.First)
	case "free":
		freed, phase := r.freed(d.First)
		d.First = freed
		return told(phase), true
	case "add":
		d.First = impl.Spinor{r.plus(d.First[0], d.Second[0]), r.plus(d.First[1], d.Second[1])}
	case "apply":
		d.First = r.image(d.Table, d.First)
	default:
		return "", false
	}
	return toldSpinor(d.First), true
}

func (r *reckoner) didTable(d *impl.Desk, line string) (string, bool) {
	switch line {
	case "unit":
		d.Table = unit
	case "adjoint":
		d.Table = daggered(d.Table)
	case "fix":
		d.Table = r.renewedTable(d.Table)
	case "carry":
		d.Table = r.carrying(d.First, d.Second)
	case "table":
	default:
		return "", false
	}
	return toldTable(d.Table), true
}

func (r *reckoner) didPolygon(d *impl.Desk, line string) (string, bool) {
	n := len(d.Polygon)
	switch line {
	case "keep":
		d.Polygon = append(d.Polygon, d.First)
		return strconv.Itoa(n + 1), n < 24
	case "clear":
		d.Polygon = nil
		return "0", true
	case "refine":
		if n < 1 || n > 12 {
			return "", false
		}
		refined, code := r.refined(d.Polygon)
		d.Polygon = refined
		return strconv.Itoa(2 * n), code == impl.ErrNone
	case "phase", "closing":
		if n == 0 {
			return "", false
		}
		find := r.phaseOfLoop
		if line == "closing" {
			find = r.closing
		}
		phase, code := find(d.Polygon)
		return told(phase), code == impl.ErrNone
	}
	return "", false
}

func (r *reckoner) didTell(d *impl.Desk, line string) (string, bool) {
	switch line {
	case "show":
		return toldSpinor(d.First), true
	case "other":
		return toldSpinor(d.Second), true
	case "inner":
		return told(r.inner(d.First, d.Second)), true
	case "transition":
		return toldNumber(r.square(r.inner(d.First, d.Second))), true
	case "vector":
		return toldVector(r.vectorOfSpinor(d.First)), true
	case "norm":
		return toldNumber(r.normSquare(d.First)), true
	case "drift":
		return toldNumber(r.drift(d.Table)), true
	case "purity":
		return toldNumber(r.purity(r.weighted([]impl.Spinor{d.First, d.Second}, []float32{1, 1}))), true
	case "reset":
		*d = impl.Desk{First: up, Second: down, Table: unit}
		return "ok", true
	}
	return "", false
}

func copyOfDesk(d impl.Desk) impl.Desk {
	d.Polygon = slices.Clone(d.Polygon)
	return d
}

func sameDesk(d, e impl.Desk) bool {
	return d.First == e.First && d.Second == e.Second && d.Table == e.Table && slices.Equal(d.Polygon, e.Polygon)
}

// wantLine expects a line to lead from a desk to another one, with an output.
func wantLine(t *testing.T, d impl.Desk, line string, want impl.Desk, wantOutput string) {
	t.Helper()
	next, output := impl.RunLine(d, line)
	if output != wantOutput || !sameDesk(next, want) || !impl.IsDesk(next) {
		t.Errorf("RunLine(%v, %q) = %v, %q, want %v, %q", d, line, next, output, want, wantOutput)
	}
}

// wantWrong expects a line to have the output error, and to change nothing.
func wantWrong(t *testing.T, d impl.Desk, line string) {
	t.Helper()
	wantLine(t, d, line, d, "error")
}
