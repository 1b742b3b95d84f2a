package curve

import (
	"slices"

	"tensile/api"
)

// nowhere is the index of no point.
const nowhere = -1

// loads are those of a truth; behind the last point of the curve they are 0.
type loads [api.MaxCurvePoints]int

// reading is a curve that is read by a rule.
type reading struct {
	Curve
	Rule
}

// pull is what is read in one truth.
type pull struct {
	reading
	loads
}

func (r reading) check() api.Errno {
	if e := r.Curve.check(); e != api.OK {
		return e
	}
	return r.Rule.check()
}

func (r reading) line(at int) int { return r.Slope * (r.Points[at].Stretch - r.Offset) }

func (p pull) drops(at int) bool { return p.loads[at]-p.loads[at+1] >= p.Drop }

func (p pull) meets(at int) bool { return p.loads[at] <= p.line(at) }

// first returns the least index below many that has what is asked for, or nowhere.
func first(many int, has func(int) bool) int {
	for at := range many {
		if has(at) {
			return at
		}
	}
	return nowhere
}

func greatest(loads ...int) int {
	most := 0
	for _, load := range loads {
		most = max(most, load)
	}
	return most
}

func (p pull) proofLoad(at int) int {
	if at == 0 {
		return p.loads[0]
	}
	a, b, line, next := p.loads[at-1], p.loads[at], p.line(at-1), p.line(at)
	// This is the chapter's a + (b - a) times (a - p) divided by (a - p + q - b) as one fraction. It is never below 0, so that Go's division rounds it down.
	return (a*next - b*line) / (a - line + next - b)
}

func (p pull) work() int {
	sum := 0
	for at := 1; at < len(p.Points); at++ {
		sum += (p.loads[at-1] + p.loads[at]) * (p.Points[at].Stretch - p.Points[at-1].Stretch)
	}
	return sum
}

// read returns what is read in the truth; curve, rule and truth are valid.
func (r reading) read(truth loads) Result {
	p := pull{r, truth}
	many := len(r.Points)
	x := Result{
		Strength: greatest(truth[:many]...),
		YieldAt:  first(many-1, p.drops),
		MeetAt:   first(many, p.meets),
		Work:     p.work(),
	}
	x.Peak = slices.Index(truth[:many], x.Strength)
	if x.YieldAt != nowhere {
		x.Yield = truth[x.YieldAt]
	}
	if x.MeetAt != nowhere {
		x.ProofLoad = p.proofLoad(x.MeetAt)
	}
	return x
}
