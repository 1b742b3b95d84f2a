package plan

import "tensile/api"

// each reports whether all elements of a list pass a test.
func each[T any](list []T, passes func(T) bool) bool {
	for _, x := range list {
		if !passes(x) {
			return false
		}
	}
	return true
}

func isLot(n int) bool { return 1 <= n && n <= api.MaxPlanLot }

// isThousandths reports whether so many thousandths are a risk.
func isThousandths(n int) bool { return 0 <= n && n <= whole }

// areStages holds each stage against the pieces that are taken by then, and against the stage before it.
func (p Plan) areStages() bool {
	taken, before := 0, Stage{Accept: -1}
	follows := func(s Stage) bool {
		if s.Take < 1 || s.Take > p.Lot-taken {
			return false
		}
		taken += s.Take
		rises := before.Accept <= s.Accept && before.Reject <= s.Reject
		before = s
		return rises && s.Accept < s.Reject && s.Reject <= taken+1
	}
	return each(p.Stages, follows)
}

// endsDecided reports whether the last stage of a plan leaves nothing open.
func (p Plan) endsDecided() bool {
	last := p.Stages[len(p.Stages)-1]
	return last.Reject == last.Accept+1
}

func (p Plan) check() api.Errno {
	switch {
	case len(p.Stages) > api.MaxPlanStages:
		return api.ErrLimit
	case !isLot(p.Lot) || len(p.Stages) == 0 || !p.areStages() || !p.endsDecided():
		return api.ErrArg
	}
	return api.OK
}

// checkBad holds a number of bad pieces against the plan, as well.
func (p Plan) checkBad(bad int) api.Errno {
	if e := p.check(); e != api.OK {
		return e
	}
	if bad < 0 || bad > p.Lot {
		return api.ErrRange
	}
	return api.OK
}

func (d Demand) isValid() bool {
	areBad := 0 <= d.Good && d.Good < d.Bad && d.Bad <= api.MaxPlanLot
	return areBad && each([]int{d.Alpha, d.Beta}, isThousandths)
}

// checkLot holds a demand, and a lot of at most so many pieces against it.
func (d Demand) checkLot(lot, most int) api.Errno {
	switch {
	case !d.isValid():
		return api.ErrArg
	case lot < d.Bad || lot > most:
		return api.ErrRange
	}
	return api.OK
}

// checkDemand holds a demand against the plan, as well.
func (p Plan) checkDemand(d Demand) api.Errno {
	if e := p.check(); e != api.OK {
		return e
	}
	return d.checkLot(p.Lot, api.MaxPlanLot)
}
