package chain

import "tensile/api"

// each reports whether all elements of a list, with their indexes, pass a test.
func each[T any](list []T, passes func(int, T) bool) bool {
	for i, x := range list {
		if !passes(i, x) {
			return false
		}
	}
	return true
}

func (r Range) has(n int) bool { return r.Lo <= n && n <= r.Hi }

// isValue reports whether the range is not empty and lies within the limits of values.
func (r Range) isValue() bool {
	return -api.MaxChainValue <= r.Lo && r.Lo <= r.Hi && r.Hi <= api.MaxChainValue
}

func isDay(n int) bool { return Range{0, api.MaxChainDay}.has(n) }

func isNumber(n int) bool { return Range{1, api.MaxChainNumber}.has(n) }

func (x Item) isValid() bool {
	drifts := Range{0, api.MaxChainDrift}.has(x.Drift)
	if x.Standard {
		return drifts && x.Value.isValue()
	}
	return drifts && x.Value == Range{}
}

func (b Book) hasItem(item int) bool { return 0 <= item && item < len(b.Items) }

func (b Book) isStandard(item int) bool { return b.Items[item].Standard }

func (b Book) allows(c Cert) bool {
	between := b.hasItem(c.Item) && !b.isStandard(c.Item) && b.hasItem(c.By) && c.By != c.Item
	return between && isNumber(c.Number) && isDay(c.Day) && isDay(c.Valid) && c.Diff.isValue()
}

// contradicts reports whether the two have one Number, or the Numbers and the Days are in another order. Certificates that are the same are one.
func (c Cert) contradicts(d Cert) bool {
	return c.Number == d.Number && c != d || c.Number > d.Number && c.Day < d.Day
}

func (b Book) check() api.Errno {
	agrees := func(_ int, c Cert) bool {
		return each(b.Certs, func(_ int, d Cert) bool { return !c.contradicts(d) })
	}
	switch {
	case len(b.Items) > api.MaxChainItems || len(b.Certs) > api.MaxChainCerts:
		return api.ErrLimit
	case !each(b.Items, func(_ int, x Item) bool { return x.isValid() }):
		return api.ErrArg
	case !each(b.Certs, func(_ int, c Cert) bool { return b.allows(c) }):
		return api.ErrArg
	case !each(b.Certs, agrees):
		return api.ErrTwice
	}
	return api.OK
}

func (b Book) checkWithout(bad []int) api.Errno {
	if e := b.check(); e != api.OK {
		return e
	}
	rises := func(i, n int) bool { return isNumber(n) && (i == 0 || bad[i-1] < n) }
	if !each(bad, rises) {
		return api.ErrRange
	}
	return api.OK
}

func (b Book) checkPlace(item, day int) api.Errno {
	if e := b.check(); e != api.OK {
		return e
	}
	if !b.hasItem(item) || !isDay(day) {
		return api.ErrRange
	}
	return api.OK
}

func (b Book) checkHeld(item, day int) api.Errno {
	if e := b.checkPlace(item, day); e != api.OK {
		return e
	}
	if !workOn(b).isHeld(item, day) {
		return api.ErrLink
	}
	return api.OK
}
