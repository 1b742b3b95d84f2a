// Package curve reads what a specimen did when it was pulled, where each load is known only within the error of its reading: see shared/doc/01-curve.md.
package curve

import (
	"slices"

	"tensile/api"
)

// Range is all whole numbers from Lo up to Hi.
type Range struct{ Lo, Hi int }

// Point is a stretch, with the range in which the load is.
type Point struct {
	Stretch int
	Load    Range
}

// Curve is a list of points, each of a greater stretch than the one before it.
type Curve struct{ Points []Point }

// Rule tells how a curve is read: how much less the next load is where it yields, and the line that it has to meet.
type Rule struct{ Drop, Slope, Offset int }

// Result is what is read in a truth. YieldAt and MeetAt are -1 if there is no such point.
type Result struct {
	Strength, Peak    int
	YieldAt, Yield    int
	MeetAt, ProofLoad int
	Work              int
}

// The kinds of what has a span.
const (
	Strength uint8 = iota
	Yield
	ProofLoad
	Work
)

// CheckCurve returns the error of the curve, or OK.
func CheckCurve(c Curve) api.Errno { return c.check() }

// Read returns what is read in the truth.
func Read(c Curve, r Rule, truth []int) (Result, api.Errno) {
	x := reading{c, r}
	if e := x.check(); e != api.OK {
		return Result{}, e
	}
	if !c.allows(truth) {
		return Result{}, api.ErrRange
	}
	var all loads
	copy(all[:], truth)
	return x.read(all), api.OK
}

// Span returns the range of what the kind names in all truths that have it.
func Span(c Curve, r Rule, kind uint8) (Range, api.Errno) {
	_, span, e := spanOf(reading{c, r}, kind)
	return span, e
}

// Points returns the points that may be the peak, the yield point and the meeting point.
func Points(c Curve, r Rule) (peaks, yields, meets []int, e api.Errno) {
	x := reading{c, r}
	if e := x.check(); e != api.OK {
		return nil, nil, nil, e
	}
	may := func(kind uint8) []int {
		q, _ := quantityOf(kind)
		return slices.Collect(x.points(q))
	}
	return may(Strength), may(Yield), may(ProofLoad), api.OK
}

// Shows returns a truth in which what the kind names is the Hi of its span, or the Lo if high is false.
func Shows(c Curve, r Rule, kind uint8, high bool) ([]int, api.Errno) {
	x := reading{c, r}
	q, span, e := spanOf(x, kind)
	if e != api.OK {
		return nil, e
	}
	if high {
		return x.show(q, span.Hi), api.OK
	}
	return x.show(q, span.Lo), api.OK
}

// ProveRead reports whether what the kind names is there in the truth, and is the number.
func ProveRead(c Curve, r Rule, truth []int, kind uint8, number int) bool {
	x, e := Read(c, r, truth)
	q, known := quantityOf(kind)
	if e != api.OK || !known {
		return false
	}
	at, n := q.found(x)
	return at != nowhere && n == number
}
