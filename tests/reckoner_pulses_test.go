package tests

import (
	"slices"
	"strconv"
	"sync"

	"loop.example/g01214/impl"
)

// The functions of this file follow chapter 5 of the document word by word, with the reckoner where
// something is rounded.

// halvedExactly has the exact numbers c(k) and s(k) for all k.
var halvedExactly = sync.OnceValue(func() [25][2]float32 {
	var list [25][2]float32
	for k := range list {
		list[k][0], list[k][1] = new(reckoner).halved(int64(k))
	}
	return list
})

func tableFor(p impl.Pulse) impl.Turn {
	numbers := halvedExactly()[p.Halvings]
	c, s := complex(numbers[0], 0), complex(numbers[1], 0)
	table := [3]impl.Turn{
		{{c, -i64 * s}, {-i64 * s, c}},
		{{c, -s}, {s, c}},
		{{c - i64*s, 0}, {0, c + i64*s}},
	}[p.Axis]
	if p.Back {
		return daggered(table)
	}
	return table
}

// tablesFor has the table of each beginning of a sequence, renewed behind each m pulses, or never
// for an m of 0.
func (r *reckoner) tablesFor(list []impl.Pulse, m int) []impl.Turn {
	tables := []impl.Turn{unit}
	for i, p := range list {
		table := r.turns(tableFor(p), tables[i])
		if m > 0 && (i+1)%m == 0 {
			table = r.renewedTable(table)
		}
		tables = append(tables, table)
	}
	return tables
}

func (r *reckoner) renewedTable(a impl.Turn) impl.Turn {
	n := r.root(r.normSquare(a[0]))
	first, second := r.parts(a[0][0], n), r.parts(a[0][1], n)
	return impl.Turn{{first, second}, {-mirrored(second), mirrored(first)}}
}

func (r *reckoner) runFor(list []impl.Pulse, s impl.Spinor) []impl.Spinor {
	run := []impl.Spinor{s}
	for i, p := range list {
		run = append(run, r.image(tableFor(p), run[i]))
	}
	return run
}

func (r *reckoner) distance(a, b impl.Turn) float32 {
	var parts []float32
	for i := range 2 {
		for j := range 2 {
			re, im := r.less(real(a[i][j]), real(b[i][j])), r.less(imag(a[i][j]), imag(b[i][j]))
			parts = append(parts, re, -re, im, -im)
		}
	}
	return slices.Max(parts)
}

func textFor(list []impl.Pulse) string {
	text := ""
	for i, p := range list {
		if i > 0 {
			text += " "
		}
		if p.Back {
			text += "-"
		}
		text += []string{"x", "y", "z"}[p.Axis] + strconv.Itoa(int(p.Halvings))
	}
	return text
}

// shortenedFor looks at all neighbours again from the first ones on after each change.
func shortenedFor(list []impl.Pulse) []impl.Pulse {
	for i := range len(list) - 1 {
		first, second := list[i], list[i+1]
		if first.Axis != second.Axis || first.Halvings != second.Halvings {
			continue
		}
		if first.Back != second.Back {
			return shortenedFor(slices.Concat(list[:i], list[i+2:]))
		}
		if first.Halvings >= 1 {
			first.Halvings--
			return shortenedFor(slices.Concat(list[:i], []impl.Pulse{first}, list[i+2:]))
		}
	}
	return list
}

func anglesFor(list []impl.Pulse) []int64 {
	angles := []int64{0, 0, 0}
	for _, p := range list {
		angle := int64(1)
		for range 24 - p.Halvings {
			angle *= 2
		}
		if p.Back {
			angle *= -1
		}
		angles[p.Axis] += angle
	}
	return angles
}

// tried is a sequence of the search with its table.
type tried struct {
	list  []impl.Pulse
	table impl.Turn
}

// triedFor has all sequences of at most m pulses with k halvings, in the order of the search. The
// number of a sequence, to the base 6, has the number of a pulse in each digit.
func (r *reckoner) triedFor(k int64, m int) []tried {
	var all []tried
	for n, count := 0, 1; n <= m; n, count = n+1, count*6 {
		for number := range count {
			list := make([]impl.Pulse, n)
			for i, rest := n-1, number; i >= 0; i, rest = i-1, rest/6 {
				list[i] = impl.Pulse{Axis: int64(rest % 6 / 2), Halvings: k, Back: rest%2 == 1}
			}
			all = append(all, tried{list, r.tablesFor(list, 0)[n]})
		}
	}
	return all
}

// pulse picks an Axis and Halvings at most as great as told.
func (s *sampler) pulse(axis, halvings int64) impl.Pulse {
	return impl.Pulse{Axis: s.next(axis + 1), Halvings: s.next(halvings + 1), Back: s.next(2) == 1}
}

func (s *sampler) sequence(n int) []impl.Pulse {
	var list []impl.Pulse
	for range n {
		list = append(list, s.pulse(2, 24))
	}
	return list
}

// alike picks from few pulses, so that many neighbours can be shortened, some of them only after
// others.
func (s *sampler) alike(n int) []impl.Pulse {
	axis, halvings, turns := s.next(2), s.next(4), s.next(3)
	var list []impl.Pulse
	for range n {
		p := s.pulse(axis, halvings)
		p.Back = p.Back && (turns == 0 || turns == 1 && s.next(3) == 0)
		list = append(list, p)
	}
	return list
}
