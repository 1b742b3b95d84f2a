package book

import (
	"cmp"
	"slices"

	"tensile/api"
	"tensile/chain"
	"tensile/plan"
)

// place is an instrument on a day.
type place struct{ item, day int }

// link is whether an instrument is held on a day, and then the least of what is to be added to what it reads.
type link struct {
	isHeld bool
	least  int
}

// work is a state at work. The links are those that were asked for, by the certificates as they are.
type work struct {
	State
	links map[place]link
}

func start() *work { return &work{links: map[place]link{}} }

// forget is for when certificates have changed.
func (w *work) forget() { clear(w.links) }

func (w *work) hasCert(number int) bool {
	return slices.ContainsFunc(w.Certs, func(c chain.Cert) bool { return c.Number == number })
}

// notBad returns the book of those certificates that are not bad.
func (w *work) notBad(certs []chain.Cert) chain.Book {
	return bookOf(picked(certs, func(c chain.Cert) bool { return !slices.Contains(w.Bad, c.Number) }))
}

// isContradictory asks for the span of a standard, which is held on each day, so that nothing else can be wrong with it.
func isContradictory(b chain.Book) bool {
	_, e := chain.Span(b, 0, 0)
	return e == api.ErrFail
}

// linkAt looks the link up. The book is never contradictory: a certificate that would make it so is refused, and without some of its certificates its spans are not narrower.
func (w *work) linkAt(at place) link {
	found, isKnown := w.links[at]
	if !isKnown {
		span, e := chain.Span(w.notBad(w.Certs), at.item, at.day)
		found = link{e == api.OK, span.Lo}
		w.links[at] = found
	}
	return found
}

func (t Test) place() place { return place{t.Item, t.Day} }

func (w *work) stands(t Test) bool { return w.linkAt(t.place()).isHeld }

// picked returns the elements of a list that pass a test.
func picked[T any](list []T, passes func(T) bool) []T {
	var some []T
	for _, x := range list {
		if passes(x) {
			some = append(some, x)
		}
	}
	return some
}

// find returns the index of the lot with the number, or the one that it would have, and whether it is there.
func (w *work) find(number int) (int, bool) {
	return slices.BinarySearchFunc(w.Lots, number, func(l Lot, n int) int { return cmp.Compare(l.Number, n) })
}

func (l Lot) has(t Test) bool { return t.Lot == l.Number }

// standing returns the tests of the lot that stand.
func (w *work) standing(l Lot) []Test {
	stands := w.stands
	return picked(w.Tests, func(t Test) bool { return l.has(t) && stands(t) })
}

// verdict returns what the lot's results say: the first ones that decide, or all.
func (w *work) verdict(l Lot) uint8 {
	p := planOf(l.Pieces)
	var results []bool
	for _, t := range w.standing(l) {
		results = append(results, t.Reading+w.linkAt(t.place()).least < l.Limit)
		if verdict, _, _ := plan.Play(p, results); verdict != plan.Open {
			return verdict
		}
	}
	return plan.Open
}

func (w *work) isRecalled(l Lot) bool { return l.Passed && w.verdict(l) != plan.Accepted }

func (w *work) recalled() []int {
	var numbers []int
	for _, l := range picked(w.Lots, w.isRecalled) {
		numbers = append(numbers, l.Number)
	}
	return numbers
}

// without returns the same state with a certificate that is bad besides.
func (w *work) without(number int) *work {
	other := start()
	other.State = w.State
	other.Bad = append(slices.Clone(w.Bad), number)
	return other
}

func (w *work) withdrawn(number int) []int {
	stillStands := w.without(number).stands
	var indexes []int
	for i, t := range w.Tests {
		if w.stands(t) && !stillStands(t) {
			indexes = append(indexes, i)
		}
	}
	return indexes
}
