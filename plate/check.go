package plate

import "tensile/api"

// each reports whether all elements of a list, with their indexes, pass a test.
func each[T any](list []T, passes func(int, T) bool) bool {
	for i, x := range list {
		if !passes(i, x) {
			return false
		}
	}
	return true
}

func (r Range) has(n int) bool { return r.Lo <= n && n <= r.Hi }

// isWithin reports whether the range is not empty and lies in the outer one.
func (r Range) isWithin(outer Range) bool {
	return outer.Lo <= r.Lo && r.Lo <= r.Hi && r.Hi <= outer.Hi
}

// common returns how many numbers both ranges have.
func (r Range) common(s Range) int { return max(0, min(r.Hi, s.Hi)-max(r.Lo, s.Lo)+1) }

func (r Range) isZone() bool { return r.isWithin(Range{0, api.MaxPlateSide - 1}) }

func isSide(n int) bool { return Range{1, api.MaxPlateSide}.has(n) }

func (w Wanted) isValid() bool {
	return isSide(w.Wide) && isSide(w.Long) && Range{0, api.MaxPlateWorth}.has(w.Worth) && w.X.isZone() && w.Y.isZone()
}

func (p Plate) check() api.Errno {
	valid := func(_ int, w Wanted) bool { return w.isValid() }
	switch {
	case len(p.Wanted) > api.MaxPlateWanted:
		return api.ErrLimit
	case !isSide(p.Wide) || !isSide(p.Long) || !(Range{0, api.MaxPlateSaw}).has(p.Saw):
		return api.ErrArg
	case !each(p.Wanted, valid):
		return api.ErrArg
	}
	return api.OK
}
