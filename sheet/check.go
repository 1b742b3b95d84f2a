package sheet

import "tensile/api"

// each reports whether all elements of a list pass a test.
func each[T any](list []T, passes func(T) bool) bool {
	for _, x := range list {
		if !passes(x) {
			return false
		}
	}
	return true
}

func isFromTo(n, low, high int) bool { return low <= n && n <= high }

func isNumber(n int) bool { return isFromTo(n, 0, api.MaxSheetNumber) }

func (p Point) isPoint() bool {
	return isFromTo(p.Stretch, 0, api.MaxSheetStretch) && isFromTo(p.Load, 0, api.MaxSheetLoad)
}

// mayLeadTo reports whether the other point may follow this one.
func (p Point) mayLeadTo(other Point) bool {
	return other.isPoint() && isFromTo(other.Stretch-p.Stretch, 1, 255) && isFromTo(other.Load-p.Load, -api.MaxSheetStep, api.MaxSheetStep)
}

// areRight reports whether there are points, and they follow one another as those of a sheet do.
func areRight(points []Point) bool {
	mayBeNext := Point.isPoint
	for _, p := range points {
		if !mayBeNext(p) {
			return false
		}
		mayBeNext = p.mayLeadTo
	}
	return len(points) > 0
}

func (s Sheet) isShort() bool { return len(s.Points) <= api.MaxSheetPoints }

func (s Sheet) isRight() bool { return isNumber(s.Number) && areRight(s.Points) }

func check(sheets ...Sheet) api.Errno {
	switch {
	case len(sheets) > api.MaxSheetSheets || !each(sheets, Sheet.isShort):
		return api.ErrLimit
	case !each(sheets, Sheet.isRight):
		return api.ErrArg
	}
	return api.OK
}

func haveOwnNumbers(sheets []Sheet) bool {
	numbers := map[int]bool{}
	for _, s := range sheets {
		numbers[s.Number] = true
	}
	return len(numbers) == len(sheets)
}

func isShort(file []byte) bool { return len(file) <= api.MaxSheetBytes }
