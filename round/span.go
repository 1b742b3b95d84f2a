package round

func least(first int, others ...int) int {
	for _, n := range others {
		first = min(first, n)
	}
	return first
}

func greatest(first int, others ...int) int {
	for _, n := range others {
		first = max(first, n)
	}
	return first
}

func (r Range) low() int  { return r.Lo }
func (r Range) high() int { return r.Hi }

// end is one of the two that a range has: how it is read, and which one of several is the innermost.
type end struct {
	of        func(Range) int
	innermost func(first int, others ...int) int
}

func lower() end { return end{Range.low, greatest} }
func upper() end { return end{Range.high, least} }

// common returns the end of what all the ranges have in common.
func (x end) common(ranges []Range) int {
	var ends []int
	for _, r := range ranges {
		ends = append(ends, x.of(r))
	}
	return x.innermost(ends[0], ends[1:]...)
}

// common returns what two ranges have in common; its Lo is above its Hi if that is nothing.
func common(r, other Range) Range {
	both := []Range{r, other}
	return Range{lower().common(both), upper().common(both)}
}

func (r Range) has(n int) bool { return r.Lo <= n && n <= r.Hi }

func (r Range) hasSome() bool { return r.Lo <= r.Hi }

func (r Range) wider(by int) Range { return Range{r.Lo - by, r.Hi + by} }

// less returns by how much a number of the range can be above one of another range.
func (r Range) less(other Range) Range { return Range{r.Lo - other.Hi, r.Hi - other.Lo} }
