package stair

import "tensile/api"

// lostLevel stands for the level of a run that is lost.
const lostLevel = -1

// each reports whether all elements of a list pass a test.
func each[T any](list []T, passes func(T) bool) bool {
	for _, x := range list {
		if !passes(x) {
			return false
		}
	}
	return true
}

// only returns the elements of a list that pass a test.
func only[T any](list []T, passes func(T) bool) []T {
	var all []T
	for _, x := range list {
		if passes(x) {
			all = append(all, x)
		}
	}
	return all
}

func (r Range) has(n int) bool { return r.Lo <= n && n <= r.Hi }

// everyLevel returns the levels of a staircase.
func (s Stairs) everyLevel() Range { return Range{0, s.Levels - 1} }

// isLost reports whether the result is lost; the level may still be known.
func (r Run) isLost() bool { return r.Result == Lost }

func (s Stairs) isLaid() bool {
	return Range{1, api.MaxStairLevels}.has(s.Levels) && s.everyLevel().has(s.Start)
}

func (s Stairs) isRun(r Run) bool {
	return (r.Level == lostLevel || s.everyLevel().has(r.Level)) && r.Result <= Lost
}

func (s Stairs) check() api.Errno {
	switch {
	case len(s.Runs) > api.MaxStairRuns || len(only(s.Runs, Run.isLost)) > api.MaxStairLost:
		return api.ErrLimit
	case !s.isLaid() || !each(s.Runs, s.isRun):
		return api.ErrArg
	}
	return api.OK
}

// checkShake is for a staircase without runs, to which those of the specimens are to come.
func (s Stairs) checkShake(limits []int, stops []bool) api.Errno {
	switch {
	case !s.isLaid():
		return api.ErrArg
	case len(limits) > api.MaxStairRuns:
		return api.ErrLimit
	case len(stops) != len(limits) || !each(limits, s.everyLimit().has):
		return api.ErrRange
	}
	return api.OK
}
