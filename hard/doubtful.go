package hard

import "slices"

// doubtful returns the doubtful readings. Each reading is kept before it is left out, so that of lists of as many the least one is found last.
// The spans of those that are kept are handed on: as more readings only cut them, no cut is made twice, and nothing is looked for behind readings that do not fit together.
func (o bench) doubtful() []int {
	var out, fewest []int
	most := len(o.readings)
	var look func(next int, s spans)
	look = func(next int, s spans) {
		switch {
		case s.isEmpty() || len(out) > most:
			return
		case next == len(o.readings):
			fewest, most = slices.Clone(out), len(out)
			return
		}
		look(next+1, o.settle(o.cut(s, o.readings[next])))
		out = append(out, next)
		look(next+1, s)
		out = out[:len(out)-1]
	}
	look(0, o.widest())
	return fewest
}
