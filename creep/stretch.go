package creep

func (r Range) low() int  { return r.Lo }
func (r Range) high() int { return r.Hi }

func isBelow(n, other int) bool { return n < other }
func isAbove(n, other int) bool { return n > other }

// end is the one or the other end of stretches: how it is read, and whether one number is farther out than another.
type end struct {
	of       func(Range) int
	isBeyond func(n, other int) bool
}

func endAt(high bool) end {
	if high {
		return end{Range.high, isAbove}
	}
	return end{Range.low, isBelow}
}

// reaching returns allowed rates, if there are some, for which that end of the plan's stretch is farthest out.
func (o room) reaching(plan []Segment, e end) rateList {
	var best rateList
	first := true
	for r := range o.allowed() {
		if first || e.isBeyond(e.of(r.stretch(plan)), e.of(best.stretch(plan))) {
			best, first = r, false
		}
	}
	return best
}

// stretch returns that of the plan, for all allowed rates.
func (o room) stretch(plan []Segment) Range {
	low, high := endAt(false), endAt(true)
	return Range{
		low.of(o.reaching(plan, low).stretch(plan)),
		high.of(o.reaching(plan, high).stretch(plan)),
	}
}

// hours returns the least number of them that, times the rate, is at least the stretch, or Never.
func hours(stretch, rate int) int {
	switch {
	case stretch == 0:
		return 0
	case rate == 0:
		return Never
	}
	return (stretch-1)/rate + 1
}

// life returns the span of it. A greater rate has no longer life, so that the ends of the allowed rates have the ends of it.
func (o room) life(band, stretch int) Range {
	all, _ := o.ranges()
	return Range{hours(stretch, all[band].Hi), hours(stretch, all[band].Lo)}
}
