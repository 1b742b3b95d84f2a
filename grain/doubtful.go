package grain

import "slices"

// doubtful returns the doubtful comparisons. Each comparison is kept before it is left out, so that of lists of as many the least one is found last.
// The distances by those that are kept are handed on: as more comparisons only cut them, nothing is looked for behind comparisons that do not fit together.
func (a Album) doubtful() []int {
	var out, fewest []int
	most := len(a.Comparisons)
	var look func(next int, d distances)
	look = func(next int, d distances) {
		switch {
		case !d.isPossible() || len(out) > most:
			return
		case next == len(a.Comparisons):
			fewest, most = slices.Clone(out), len(out)
			return
		}
		look(next+1, d.with(a.Comparisons[next]))
		out = append(out, next)
		look(next+1, d)
		out = out[:len(out)-1]
	}
	look(0, widest())
	return fewest
}
