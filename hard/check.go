package hard

import "tensile/api"

// each reports whether all elements of a list pass a test.
func each[T any](list []T, passes func(T) bool) bool {
	for _, x := range list {
		if !passes(x) {
			return false
		}
	}
	return true
}

// inTurn reports whether each element of a list passes a test with the one before it.
func inTurn[T any](list []T, passes func(before, x T) bool) bool {
	for i := 1; i < len(list); i++ {
		if !passes(list[i-1], list[i]) {
			return false
		}
	}
	return true
}

func isLess(n, other int) bool { return n < other }

func (r Range) has(n int) bool { return r.Lo <= n && n <= r.Hi }

func (r Range) isEmpty() bool { return r.Lo > r.Hi }

// cut returns what another range leaves of one; that is empty if it is nothing.
func (r Range) cut(by Range) Range { return Range{max(r.Lo, by.Lo), min(r.Hi, by.Hi)} }

func everyValue() Range { return Range{0, api.MaxHardValue} }

func isValue(n int) bool { return everyValue().has(n) }

func (r Range) isOfValues() bool { return isValue(r.Lo) && isValue(r.Hi) && !r.isEmpty() }

// isValid asks for more than a value: 0 is none of a row.
func (w Row) isValid() bool { return w.X > 0 && isValue(w.X) && w.Y > 0 && isValue(w.Y) }

func (w Row) isLeftOf(other Row) bool { return w.X < other.X }
func (w Row) isBelow(other Row) bool  { return w.Y < other.Y }
func (w Row) isAbove(other Row) bool  { return w.Y > other.Y }

func (t Table) isShort() bool { return len(t.Rows) <= api.MaxHardRows }

func (t Table) hasRows() bool {
	oneWay := inTurn(t.Rows, Row.isBelow) || inTurn(t.Rows, Row.isAbove)
	return len(t.Rows) >= 2 && each(t.Rows, Row.isValid) && inTurn(t.Rows, Row.isLeftOf) && oneWay
}

func (t Table) canBreak(row int) bool { return 0 <= row && row < len(t.Rows)-1 }

func (t Table) hasBreaks() bool { return each(t.Breaks, t.canBreak) && inTurn(t.Breaks, isLess) }

func (b Book) hasScale(scale int) bool { return 0 <= scale && scale < b.Scales }

func (b Book) isTable(t Table) bool {
	between := b.hasScale(t.From) && b.hasScale(t.To) && t.From != t.To
	return between && t.hasRows() && t.hasBreaks() && Range{0, api.MaxHardErr}.has(t.Err)
}

func (x Block) isValid() bool { return x.Value.isOfValues() && isValue(x.Read) }

func (m Machine) isShort() bool { return len(m.Blocks) <= api.MaxHardBlocks }

func (b Book) isMachine(m Machine) bool { return b.hasScale(m.Scale) && each(m.Blocks, Block.isValid) }

func (b Book) isShort() bool {
	few := len(b.Tables) <= api.MaxHardTables && len(b.Machines) <= api.MaxHardMachines
	return few && each(b.Tables, Table.isShort) && each(b.Machines, Machine.isShort)
}

func (b Book) isValid() bool {
	return Range{1, api.MaxHardScales}.has(b.Scales) && each(b.Tables, b.isTable) && each(b.Machines, b.isMachine)
}

func (b Book) check() api.Errno {
	switch {
	case !b.isShort():
		return api.ErrLimit
	case !b.isValid():
		return api.ErrArg
	}
	return api.OK
}

func (b Book) hasMachine(machine int) bool { return 0 <= machine && machine < len(b.Machines) }

func (b Book) hasTable(table int) bool { return 0 <= table && table < len(b.Tables) }

func (b Book) checkMachine(machine int) api.Errno {
	if e := b.check(); e != api.OK {
		return e
	}
	switch {
	case !b.hasMachine(machine):
		return api.ErrRange
	case b.Machines[machine].isOff():
		return api.ErrSpoil
	}
	return api.OK
}

func (b Book) checkConvert(table int, r Range) api.Errno {
	if e := b.check(); e != api.OK {
		return e
	}
	switch {
	case !b.hasTable(table) || !r.isOfValues():
		return api.ErrRange
	case !b.Tables[table].converts(r):
		return api.ErrLink
	}
	return api.OK
}

func (b Book) isReading(x Reading) bool { return b.hasMachine(x.Machine) && isValue(x.Read) }

// canBelieve reports whether the machine of a reading is not off.
func (b Book) canBelieve(x Reading) bool { return !b.Machines[x.Machine].isOff() }

func (b Book) checkReadings(readings []Reading) api.Errno {
	if e := b.check(); e != api.OK {
		return e
	}
	switch {
	case len(readings) > api.MaxHardReadings:
		return api.ErrLimit
	case !each(readings, b.isReading):
		return api.ErrRange
	case !each(readings, b.canBelieve):
		return api.ErrSpoil
	}
	return api.OK
}

// isValues reports whether there is a value for each scale.
func (b Book) isValues(values []int) bool { return len(values) == b.Scales && each(values, isValue) }
