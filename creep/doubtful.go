package creep

import "tensile/api"

// runSet tells of each run whether it is one of the set.
type runSet [api.MaxCreepRuns]bool

func (s runSet) with(run int) runSet {
	s[run] = true
	return s
}

func (s runSet) isWithin(other runSet) bool {
	for run := range s {
		if s[run] && !other[run] {
			return false
		}
	}
	return true
}

// list returns the runs of the set, rising.
func (s runSet) list() []int {
	var all []int
	for run := range s {
		if s[run] {
			all = append(all, run)
		}
	}
	return all
}

// forbidding returns the runs that do not allow the rates.
func (l runList) forbidding(r rateList) runSet {
	var all runSet
	for run, x := range l {
		all[run] = !r.fits(x)
	}
	return all
}

// without returns a function that tells whether rates are allowed without some runs. Which ones forbid them is found out but once, for all rates.
func (o room) without() func(out runSet) bool {
	against := map[rateList]runSet{}
	for r := range o.all() {
		against[r] = o.forbidding(r)
	}
	return func(out runSet) bool {
		for _, runs := range against {
			if runs.isWithin(out) {
				return true
			}
		}
		return false
	}
}

// doubtful returns the doubtful runs. Fewer runs are tried before more, and of as many those of the least list first, so that the first ones that are found are those. Without all runs, all rates are allowed.
func (o room) doubtful() []int {
	areAllowed := o.without()
	var find func(out runSet, from, more int) (found runSet, is bool)
	find = func(out runSet, from, more int) (found runSet, is bool) {
		if more == 0 {
			return out, areAllowed(out)
		}
		for run := from; run < len(o.runList); run++ {
			found, is = find(out.with(run), run+1, more-1)
			if is {
				return found, true
			}
		}
		return runSet{}, false
	}
	for many := range len(o.runList) + 1 {
		if found, is := find(runSet{}, 0, many); is {
			return found.list()
		}
	}
	return nil
}
