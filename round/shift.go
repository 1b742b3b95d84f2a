package round

import "slices"

// alone returns the trial of the laboratory by itself, with lots of any value.
func (r Round) alone(lab int) trial {
	r.Lots = slices.Repeat([]Range{everyValue()}, len(r.Lots))
	r.Labs = r.Labs[lab : lab+1]
	return trial{Round: r}
}

// shifts returns those of a laboratory, by the spans of the samples without it, and whether it errs by some.
// All that tells of a lot fits together if each two of its ranges do. Ranges of the others do, as there are spans; two of its own ones are as far from each other by any shift, so that they do if they do by themselves; and one of its own fits those of the others if it fits the span.
func (r Round) shifts(lab int, spans []Range) (Range, bool) {
	alone := r.alone(lab)
	shifts := everyShift()
	for sample, span := range spans {
		for allowed := range alone.readings(sample) {
			shifts = common(shifts, allowed.less(span))
		}
	}
	_, is := alone.spans()
	return shifts, is && shifts.hasSome()
}
