package round

import "tensile/api"

// each reports whether all elements of a list pass a test.
func each[T any](list []T, passes func(T) bool) bool {
	for _, x := range list {
		if !passes(x) {
			return false
		}
	}
	return true
}

// isRising reports whether each number is greater than the one before it.
func isRising(list []int) bool {
	for i := 1; i < len(list); i++ {
		if list[i] <= list[i-1] {
			return false
		}
	}
	return true
}

func everyValue() Range { return Range{0, api.MaxRoundValue} }

func everyTol() Range { return Range{0, api.MaxRoundTol} }

func everyShift() Range { return Range{-api.MaxRoundShift, api.MaxRoundShift} }

func isReading(n int) bool { return n == None || everyValue().has(n) }

func isLot(r Range) bool { return r.hasSome() && common(r, everyValue()) == r }

func (r Round) hasLot(lot int) bool { return 0 <= lot && lot < len(r.Lots) }

func (r Round) hasLab(lab int) bool { return 0 <= lab && lab < len(r.Labs) }

func (r Round) isLab(x Lab) bool {
	return everyTol().has(x.Tol) && len(x.Readings) == len(r.Samples) && each(x.Readings, isReading)
}

func (r Round) isShort() bool {
	return len(r.Lots) <= api.MaxRoundLots && len(r.Samples) <= api.MaxRoundSamples && len(r.Labs) <= api.MaxRoundLabs
}

func (r Round) isValid() bool {
	hasLots := len(r.Lots) > 0 && each(r.Lots, isLot)
	return hasLots && each(r.Samples, r.hasLot) && everyTol().has(r.Spread) && each(r.Labs, r.isLab)
}

func (r Round) check() api.Errno {
	switch {
	case !r.isShort():
		return api.ErrLimit
	case !r.isValid():
		return api.ErrArg
	}
	return api.OK
}

// checkOff holds a list of laboratories against the round, as well.
func (r Round) checkOff(off []int) api.Errno {
	if e := r.check(); e != api.OK {
		return e
	}
	if !each(off, r.hasLab) || !isRising(off) {
		return api.ErrRange
	}
	return api.OK
}

func (r Round) checkLab(lab int) api.Errno { return r.checkOff([]int{lab}) }
