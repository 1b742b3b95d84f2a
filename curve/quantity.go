package curve

import "iter"

// quantity is something that is read: truths that reach the ends of its span and all points that may be its own, and where it is in a result, and how much.
type quantity struct {
	truths func(reading) iter.Seq[loads]
	found  func(Result) (at, number int)
}

func quantityOf(kind uint8) (q quantity, known bool) {
	switch kind {
	case Strength:
		return quantity{reading.raised, Result.strength}, true
	case Yield:
		return quantity{reading.yielding, Result.yield}, true
	case ProofLoad:
		return quantity{reading.meeting, Result.proofLoad}, true
	case Work:
		return quantity{reading.ends, Result.work}, true
	}
	return quantity{}, false
}

func (x Result) strength() (at, number int)  { return x.Peak, x.Strength }
func (x Result) yield() (at, number int)     { return x.YieldAt, x.Yield }
func (x Result) proofLoad() (at, number int) { return x.MeetAt, x.ProofLoad }

// work is told to be at the first point, as there is one in each truth.
func (x Result) work() (at, number int) { return 0, x.Work }

// lows returns the truth in which each load is the least.
func (r reading) lows() loads {
	var truth loads
	for at, p := range r.Points {
		truth[at] = p.Load.Lo
	}
	return truth
}

// highs returns the truth in which each load is the greatest.
func (r reading) highs() loads {
	var truth loads
	for at, p := range r.Points {
		truth[at] = p.Load.Hi
	}
	return truth
}

// ends brings the two truths between which all others are: the work rises with each load.
func (r reading) ends() iter.Seq[loads] {
	return func(bring func(loads) bool) {
		if bring(r.lows()) {
			bring(r.highs())
		}
	}
}

// raised brings the least truth, and for each point the one in which its load alone is the greatest: a point that is not the peak in this one is not in any.
func (r reading) raised() iter.Seq[loads] {
	return func(bring func(loads) bool) {
		if !bring(r.lows()) {
			return
		}
		for at, p := range r.Points {
			truth := r.lows()
			truth[at] = p.Load.Hi
			if !bring(truth) {
				return
			}
		}
	}
}
