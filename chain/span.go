package chain

import (
	"iter"
	"slices"
)

func (r Range) low() int  { return r.Lo }
func (r Range) high() int { return r.Hi }

func (r Range) plus(s Range) Range { return Range{r.Lo + s.Lo, r.Hi + s.Hi} }

func (r Range) widened(by int) Range { return Range{r.Lo - by, r.Hi + by} }

func (r Range) isEmpty() bool { return r.Lo > r.Hi }

func greatest(numbers ...int) int { return slices.Max(numbers) }

func least(numbers ...int) int { return slices.Min(numbers) }

// end is the one or the other end of ranges: how it is read, and which one of several is that of what the ranges have in common.
type end struct {
	read func(Range) int
	pick func(...int) int
}

func (e end) of(ranges []Range) int {
	var numbers []int
	for _, r := range ranges {
		numbers = append(numbers, e.read(r))
	}
	return e.pick(numbers...)
}

// common returns what one or more ranges have in common. It is empty, with its Lo above its Hi, if that is nothing.
func common(ranges []Range) Range {
	low, high := end{Range.low, greatest}, end{Range.high, least}
	return Range{low.of(ranges), high.of(ranges)}
}

// spans returns a function that works out the span of an item on a day, by those of some certificates that hold; there is one at least, if the item is no standard. The span of a certificate is kept, as the paths by which others rest on it may be many.
func (w worked) spans() func(item, day int, by iter.Seq[Cert]) Range {
	kept := map[int]Range{}
	var spanBy func(item, day int, by iter.Seq[Cert]) Range
	spanOf := func(c Cert) Range {
		span, known := kept[c.Number]
		if !known {
			span = spanBy(c.By, c.Day, w.restedOn(c)).plus(c.Diff)
			kept[c.Number] = span
		}
		return span
	}
	spanBy = func(item, day int, by iter.Seq[Cert]) Range {
		if w.isStandard(item) {
			return w.Items[item].Value
		}
		var ranges []Range
		for c := range only(by, w.holds) {
			ranges = append(ranges, spanOf(c).widened(w.Items[item].Drift*(day-c.Day)))
		}
		return common(ranges)
	}
	return spanBy
}

// span returns the span of an item that is held on the day.
func (w worked) span(item, day int) Range {
	return w.spans()(item, day, w.validOn(item, day))
}

func (w worked) contradictory() bool {
	spanBy := w.spans()
	failed := func(c Cert) bool { return spanBy(c.Item, c.Day, w.validOn(c.Item, c.Day)).isEmpty() }
	return some(only(w.all(), w.holds), failed)
}
