package plan

import (
	"iter"

	"tensile/api"
)

// triangle is Pascal's: in how many ways some of so many pieces can be chosen.
type triangle [api.MaxPlanLot + 1][api.MaxPlanLot + 1]int

// pascal returns the triangle for lots of at most so many pieces.
func pascal(lot int) *triangle {
	var t triangle
	for of := range lot + 1 {
		t[of][0] = 1
		for n := 1; n <= of; n++ {
			t[of][n] = t[of-1][n-1] + t[of-1][n]
		}
	}
	return &t
}

func product(factors ...int) int {
	all := 1
	for _, n := range factors {
		all *= n
	}
	return all
}

// place is where a plan stands: behind so many stages, with so many bad pieces among those taken.
type place struct{ stage, bad int }

func (p Plan) verdict(at place) uint8 {
	if at.stage == 0 {
		return Open
	}
	switch s := p.Stages[at.stage-1]; {
	case at.bad <= s.Accept:
		return Accepted
	case at.bad >= s.Reject:
		return Rejected
	}
	return Open
}

// follow returns where the plan stands by the results of whole stages, and the other results.
func (p Plan) follow(results []bool) (place, []bool) {
	var at place
	for p.verdict(at) == Open {
		take := p.Stages[at.stage].Take
		if len(results) < take {
			break
		}
		for _, isBad := range results[:take] {
			if isBad {
				at.bad++
			}
		}
		at.stage++
		results = results[take:]
	}
	return at, results
}

// taken returns how many pieces the plan takes up to a place.
func (p Plan) taken(at place) int {
	all := 0
	for _, s := range p.Stages[:at.stage] {
		all += s.Take
	}
	return all
}

// atWork is a plan that draws from a lot with bad pieces.
type atWork struct {
	Plan
	bad  int
	ways *triangle
}

func (p Plan) atWork(bad int) atWork { return atWork{p, bad, pascal(p.Lot)} }

// next brings where the plan can stand a stage behind a place, and by how many draws of this stage.
func (w atWork) next(at place) iter.Seq2[place, int] {
	return func(bring func(place, int) bool) {
		take := w.Stages[at.stage].Take
		bad := w.bad - at.bad
		good := w.Lot - w.taken(at) - bad
		for n := max(0, take-good); n <= min(take, bad); n++ {
			if !bring(place{at.stage + 1, at.bad + n}, product(w.ways[bad][n], w.ways[good][take-n])) {
				return
			}
		}
	}
}

// draws returns how many there are of all stages behind a place.
func (w atWork) draws(at place) int {
	var ways []int
	left := w.Lot - w.taken(at)
	for _, s := range w.Stages[at.stage:] {
		ways = append(ways, w.ways[left][s.Take])
		left -= s.Take
	}
	return product(ways...)
}

// accepts is 1 for a place where the lot is accepted.
func (w atWork) accepts(at place) int {
	if w.verdict(at) == Accepted {
		return 1
	}
	return 0
}

func (w atWork) takes(at place) int { return w.taken(at) }

// count is what is counted of each draw, by the place where it is decided.
type count struct{ of func(atWork, place) int }

func acceptances() count { return count{atWork.accepts} }
func piecesTaken() count { return count{atWork.takes} }

// sum returns that of a count over all draws. What it has summed up is kept, as many draws come to the same place.
func (w atWork) sum(c count) int {
	kept := map[place]int{}
	var from func(place) int
	from = func(at place) int {
		if w.verdict(at) != Open {
			return product(c.of(w, at), w.draws(at))
		}
		all, known := kept[at]
		if known {
			return all
		}
		for next, ways := range w.next(at) {
			all += product(ways, from(next))
		}
		kept[at] = all
		return all
	}
	return from(place{})
}

func (w atWork) chance() Fraction { return over(w.sum(acceptances()), w.draws(place{})) }
func (w atWork) mean() Fraction   { return over(w.sum(piecesTaken()), w.draws(place{})) }
