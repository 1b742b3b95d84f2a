package curve

import (
	"iter"
	"slices"

	"tensile/api"
)

// bounds returns a function that takes in a number and returns the range of all that it has taken in.
func bounds() func(int) Range {
	var all Range
	begun := false
	return func(n int) Range {
		if !begun {
			all, begun = Range{n, n}, true
		}
		all = Range{min(all.Lo, n), max(all.Hi, n)}
		return all
	}
}

// numbers brings where the quantity is, and how much, in each of its truths that has it.
func (r reading) numbers(q quantity) iter.Seq2[int, int] {
	return func(bring func(at, number int) bool) {
		for truth := range q.truths(r) {
			if at, number := q.found(r.read(truth)); at != nowhere && !bring(at, number) {
				return
			}
		}
	}
}

// points brings the points that may be the quantity's own, rising.
func (r reading) points(q quantity) iter.Seq[int] {
	return func(bring func(int) bool) {
		var may [api.MaxCurvePoints]bool
		for at := range r.numbers(q) {
			may[at] = true
		}
		for at, is := range may {
			if is && !bring(at) {
				return
			}
		}
	}
}

// spanOf returns the quantity that the kind names, and its span.
func spanOf(r reading, kind uint8) (quantity, Range, api.Errno) {
	if e := r.check(); e != api.OK {
		return quantity{}, Range{}, e
	}
	q, known := quantityOf(kind)
	if !known {
		return quantity{}, Range{}, api.ErrRange
	}
	var span Range
	some := false
	take := bounds()
	for _, number := range r.numbers(q) {
		span, some = take(number), true
	}
	if !some {
		return quantity{}, Range{}, api.ErrNone
	}
	return q, span, api.OK
}

// show returns a truth in which the quantity is the number, an end of its span.
func (r reading) show(q quantity, number int) []int {
	for truth := range q.truths(r) {
		if at, n := q.found(r.read(truth)); at != nowhere && n == number {
			return slices.Clone(truth[:len(r.Points)])
		}
	}
	return nil
}
