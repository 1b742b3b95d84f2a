package creep

import (
	"iter"
	"slices"

	"tensile/api"
)

// each reports whether all elements of a list pass a test.
func each[T any](list []T, passes func(T) bool) bool {
	for _, x := range list {
		if !passes(x) {
			return false
		}
	}
	return true
}

// some reports whether anything is brought.
func some[T any](all iter.Seq[T]) bool {
	for range all {
		return true
	}
	return false
}

func (r Range) has(n int) bool { return r.Lo <= n && n <= r.Hi }

func (r Range) isEmpty() bool { return r.Lo > r.Hi }

// cut returns what another range leaves of one; that is empty if it is nothing.
func (r Range) cut(by Range) Range { return Range{max(r.Lo, by.Lo), min(r.Hi, by.Hi)} }

func (r Range) meets(other Range) bool { return !r.cut(other).isEmpty() }

func (r Range) isWithin(limits Range) bool { return !r.isEmpty() && r.cut(limits) == r }

// isOfRates asks for the limits first, as the difference of any two numbers may be none.
func (r Range) isOfRates() bool {
	return r.isWithin(Range{0, api.MaxCreepRate}) && r.Hi-r.Lo <= api.MaxCreepWide
}

// hasBands asks for the number of bands first, as nothing else is to be worked out from too many.
func (m Material) hasBands() bool {
	return Range{1, api.MaxCreepBands}.has(len(m.Rates)) && each(m.Rates, Range.isOfRates)
}

func (m Material) hasBand(band int) bool { return 0 <= band && band < len(m.Rates) }

func (m Material) isSegment(s Segment) bool {
	return m.hasBand(s.Band) && s.Hours.isWithin(Range{0, api.MaxCreepHours})
}

func (m Material) isRun(x Run) bool {
	return each(x.Segments, m.isSegment) && x.Seen.isWithin(everyStretch())
}

func (m Material) isRates(rates []int) bool {
	if len(rates) != len(m.Rates) || !slices.IsSorted(rates) {
		return false
	}
	for band := range len(m.Rates) {
		if !m.Rates[band].has(rates[band]) {
			return false
		}
	}
	return true
}

// everyStretch returns the stretches that can be seen, or asked for.
func everyStretch() Range { return Range{0, api.MaxCreepStretch} }

func isShort(segments []Segment) bool { return len(segments) <= api.MaxCreepSegments }

func (x Run) isShort() bool { return isShort(x.Segments) }

func (m Material) check() api.Errno {
	if !m.hasBands() || !some(m.all()) {
		return api.ErrArg
	}
	return api.OK
}

func (o room) check() api.Errno {
	if e := o.Material.check(); e != api.OK {
		return e
	}
	switch {
	case len(o.runList) > api.MaxCreepRuns || !each(o.runList, Run.isShort):
		return api.ErrLimit
	case !each(o.runList, o.isRun):
		return api.ErrArg
	}
	return api.OK
}

func (o room) checkRates(rates []int) api.Errno {
	if e := o.check(); e != api.OK {
		return e
	}
	if !o.isRates(rates) {
		return api.ErrRange
	}
	return api.OK
}

func (o room) checkAllowed() api.Errno {
	if e := o.check(); e != api.OK {
		return e
	}
	if !some(o.allowed()) {
		return api.ErrFail
	}
	return api.OK
}

func (o room) checkPlan(plan []Segment) api.Errno {
	if e := o.checkAllowed(); e != api.OK {
		return e
	}
	if !isShort(plan) || !each(plan, o.isSegment) {
		return api.ErrRange
	}
	return api.OK
}

func (o room) checkLife(band, stretch int) api.Errno {
	if e := o.checkAllowed(); e != api.OK {
		return e
	}
	if !o.hasBand(band) || !everyStretch().has(stretch) {
		return api.ErrRange
	}
	return api.OK
}
