package book

import "tensile/api"

// each reports whether all elements of a list pass a test.
func each[T any](list []T, passes func(T) bool) bool {
	for _, x := range list {
		if !passes(x) {
			return false
		}
	}
	return true
}

func isFromTo(n, low, high int) bool { return low <= n && n <= high }

func isLine(text string) bool { return len(text) <= api.MaxBookLine }

func isSession(lines []string) bool { return len(lines) <= api.MaxBookSession }

func check(lines []string) api.Errno {
	if !isSession(lines) || !each(lines, isLine) {
		return api.ErrLimit
	}
	return api.OK
}

func (l Lot) isInRange() bool {
	return isFromTo(l.Number, 1, api.MaxBookLot) && isFromTo(l.Pieces, 4, api.MaxPlanLot) && isFromTo(l.Limit, 0, api.MaxBookLimit)
}

func (t Test) isInRange() bool {
	return isFromTo(t.Item, firstInstrument, lastInstrument) && isFromTo(t.Day, 0, api.MaxChainDay) && isFromTo(t.Reading, 0, api.MaxBookReading)
}
