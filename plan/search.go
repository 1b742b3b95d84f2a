package plan

import "iter"

// desk is where plans of a lot are judged by a demand.
type desk struct {
	Demand
	lot  int
	ways *triangle
}

func (d Demand) open(lot int) desk { return desk{d, lot, pascal(lot)} }

func (k desk) set(p Plan, bad int) atWork { return atWork{p, bad, k.ways} }

// isKept reports whether the plan keeps the demand.
func (k desk) isKept(p Plan) bool {
	kind := k.set(p, k.Good).chance().compare(thousandths(whole-k.Alpha)) >= 0
	return kind && k.set(p, k.Bad).chance().compare(thousandths(k.Beta)) <= 0
}

func (k desk) plan(stages ...Stage) Plan { return Plan{k.lot, stages} }

// lastly returns a stage that leaves nothing open.
func lastly(take, accept int) Stage { return Stage{take, accept, accept + 1} }

// single returns the first plan that keeps the demand. There is one, as a stage that takes the whole lot can tell just how many pieces are bad.
func (k desk) single() Plan {
	var p Plan
	isKept := k.isKept
search:
	for take := 1; take <= k.lot; take++ {
		for accept := -1; accept <= take; accept++ {
			p = k.plan(lastly(take, accept))
			if isKept(p) {
				break search
			}
		}
	}
	return p
}

// firsts brings the first stages of all plans of two stages, the least ones first.
func (k desk) firsts() iter.Seq[Stage] {
	return func(bring func(Stage) bool) {
		for take := 1; take < k.lot; take++ {
			for accept := -1; accept <= take; accept++ {
				for reject := accept + 1; reject <= take+1; reject++ {
					if !bring(Stage{take, accept, reject}) {
						return
					}
				}
			}
		}
	}
}

// doubles brings all plans of two stages, the least ones first.
func (k desk) doubles() iter.Seq[Plan] {
	return func(bring func(Plan) bool) {
		for first := range k.firsts() {
			for take := 1; take <= k.lot-first.Take; take++ {
				for accept := first.Reject - 1; accept <= first.Take+take; accept++ {
					if !bring(k.plan(first, lastly(take, accept))) {
						return
					}
				}
			}
		}
	}
}

// double returns the first plan of those that keep the demand with the least mean, and whether there is one.
func (k desk) double() (Plan, bool) {
	var best Plan
	var least Fraction
	found := false
	for p := range k.doubles() {
		mean := k.set(p, k.Good).mean()
		if found && mean.compare(least) >= 0 || !k.isKept(p) {
			continue
		}
		best, least, found = p, mean, true
	}
	return best, found
}
