package round

// nobody is spared.
const nobody = -1

// court remembers who explains the round, as the same ones are asked for whoever is spared.
type court struct {
	Round
	known map[offSet]bool
}

func (r Round) open() court { return court{r, map[offSet]bool{}} }

func (c court) explain(off offSet) bool {
	is, isKnown := c.known[off]
	if !isKnown {
		_, is = trial{c.Round, off}.spans()
		c.known[off] = is
	}
	return is
}

// fewest returns the least list of the fewest that explain the round and do not have the one who is spared, and whether there is one. Lists of fewer are tried before those of more, and of as many the least one first.
func (c court) fewest(spared int) ([]int, bool) {
	explain := c.explain
	var find func(off offSet, from, more int) ([]int, bool)
	find = func(off offSet, from, more int) ([]int, bool) {
		if more == 0 {
			return off.list(), explain(off)
		}
		for lab := from; lab < len(c.Labs); lab++ {
			if lab == spared {
				continue
			}
			if found, is := find(off.with(lab), lab+1, more-1); is {
				return found, true
			}
		}
		return nil, false
	}
	for many := range len(c.Labs) + 1 {
		if found, is := find(offSet{}, 0, many); is {
			return found, true
		}
	}
	return nil, false
}

// convicted returns those of the least list who cannot be spared, unless more were off.
func (c court) convicted() []int {
	var all []int
	fewest, _ := c.fewest(nobody)
	for _, lab := range fewest {
		others, is := c.fewest(lab)
		if !is || len(others) > len(fewest) {
			all = append(all, lab)
		}
	}
	return all
}
