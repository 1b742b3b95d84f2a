package chain

import "slices"

// follows reports whether the certificate may come next in a chain.
func (w worked) follows(chain []int, c Cert) bool {
	if len(chain) == 0 {
		return w.isStandard(c.By)
	}
	return c.restsOn(w.byNumber[chain[len(chain)-1]])
}

// leads reports whether the Numbers are those of a chain of the item on the day. What begins at a standard, and rests on what is before it, holds; and no certificate is of a standard.
func (w worked) leads(item, day int, chain []int) bool {
	if len(chain) == 0 {
		return w.isStandard(item)
	}
	linked := func(i, n int) bool {
		c, known := w.byNumber[n]
		return known && w.follows(chain[:i], c)
	}
	last := w.byNumber[chain[len(chain)-1]]
	return each(chain, linked) && last.Item == item && last.isValidOn(day)
}

// best returns the best chain of the item on the day, or none if it has no other chain than that of a standard. Chains are begun and made longer in the order in which they are preferred, so that the first one that comes to a certificate is the best one that does.
func (w worked) best(item, day int) []int {
	var found []int
	var reached numberSet
	open := [][]int{nil}
search:
	for len(open) > 0 {
		chain := open[0]
		open = open[1:]
		for c := range w.all() {
			if reached.has(c.Number) || !w.follows(chain, c) {
				continue
			}
			reached.add(c.Number)
			longer := append(slices.Clone(chain), c.Number)
			if c.Item == item && c.isValidOn(day) {
				found = longer
				break search
			}
			open = append(open, longer)
		}
	}
	return found
}
