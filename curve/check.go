package curve

import "tensile/api"

// each reports whether all elements of a list, with their indexes, pass a test.
func each[T any](list []T, passes func(int, T) bool) bool {
	for i, x := range list {
		if !passes(i, x) {
			return false
		}
	}
	return true
}

func (r Range) has(n int) bool { return r.Lo <= n && n <= r.Hi }

// within reports whether the range is not empty and lies in the outer one.
func (r Range) within(outer Range) bool {
	return outer.Lo <= r.Lo && r.Lo <= r.Hi && r.Hi <= outer.Hi
}

func (c Curve) check() api.Errno {
	valid := func(i int, p Point) bool {
		rises := i == 0 || c.Points[i-1].Stretch < p.Stretch
		return rises && Range{0, api.MaxCurveStretch}.has(p.Stretch) && p.Load.within(Range{0, api.MaxCurveLoad})
	}
	switch {
	case len(c.Points) > api.MaxCurvePoints:
		return api.ErrLimit
	case len(c.Points) == 0 || !each(c.Points, valid):
		return api.ErrArg
	}
	return api.OK
}

func (r Rule) check() api.Errno {
	drop, slope, offset := Range{1, api.MaxCurveLoad}, Range{1, api.MaxCurveSlope}, Range{0, api.MaxCurveStretch}
	if drop.has(r.Drop) && slope.has(r.Slope) && offset.has(r.Offset) {
		return api.OK
	}
	return api.ErrArg
}

// allows reports whether the truth is one of the curve.
func (c Curve) allows(truth []int) bool {
	return len(truth) == len(c.Points) && each(truth, func(i, load int) bool { return c.Points[i].Load.has(load) })
}
