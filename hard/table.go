package hard

import (
	"iter"
	"slices"
)

func least(first int, others ...int) int {
	for _, n := range others {
		first = min(first, n)
	}
	return first
}

func greatest(first int, others ...int) int {
	for _, n := range others {
		first = max(first, n)
	}
	return first
}

// fraction is a number that need not be whole. As all X and Y are above 0, none that a table makes is below it.
type fraction struct{ over, under int }

func (f fraction) down() int { return f.over / f.under }
func (f fraction) up() int   { return (f.over + f.under - 1) / f.under }

// piece is a straight line from one row to the next one, or a row alone.
type piece struct{ first, last Row }

func (p piece) has(v int) bool { return p.first.X <= v && v <= p.last.X }

// of returns what the piece makes of a value that it has.
func (p piece) of(v int) fraction {
	if v == p.first.X {
		return fraction{p.first.Y, 1}
	}
	wide, high := p.last.X-p.first.X, p.last.Y-p.first.Y
	return fraction{p.first.Y*wide + (v-p.first.X)*high, wide}
}

// next returns the row to which the piece goes that begins at a row: itself, if no other one follows or there is a break between them.
func (t Table) next(row int) int {
	if row == len(t.Rows)-1 || slices.Contains(t.Breaks, row) {
		return row
	}
	return row + 1
}

// pieces brings those of the table, one from each row.
func (t Table) pieces() iter.Seq[piece] {
	return func(bring func(piece) bool) {
		for row := range t.Rows {
			if !bring(piece{t.Rows[row], t.Rows[t.next(row)]}) {
				return
			}
		}
	}
}

// converts reports whether the table has each number, and each fraction, of the range: whether pieces, each from where the one before it ends, lead from its Lo to its Hi.
func (t Table) converts(r Range) bool {
	reached := r.Lo
	for p := range t.pieces() {
		if p.has(reached) {
			reached = p.last.X
			if r.Hi <= reached {
				return true
			}
		}
	}
	return false
}

// of returns what the table makes of a value that it has.
func (t Table) of(v int) fraction {
	var made fraction
	for p := range t.pieces() {
		if p.has(v) {
			made = p.of(v)
			break
		}
	}
	return made
}

// rounding tells how an end of what a table makes is found from what it makes of both ends.
type rounding struct {
	round func(fraction) int
	pick  func(first int, others ...int) int
}

func (g rounding) of(one, other fraction) int { return g.pick(g.round(one), g.round(other)) }

func roundDown() rounding { return rounding{fraction.down, least} }
func roundUp() rounding   { return rounding{fraction.up, greatest} }

// makes returns what the table makes of a range that it converts.
func (t Table) makes(r Range) Range {
	low, high := t.of(r.Lo), t.of(r.Hi)
	return Range{roundDown().of(low, high) - t.Err, roundUp().of(low, high) + t.Err}
}
