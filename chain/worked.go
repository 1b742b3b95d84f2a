package chain

import (
	"iter"
	"maps"
	"slices"

	"tensile/api"
)

// numberSet has a bit for each Number.
type numberSet [api.MaxChainNumber/64 + 1]uint64

func (s numberSet) has(n int) bool { return s[n/64]>>(n%64)&1 != 0 }

func (s *numberSet) add(n int) { s[n/64] |= 1 << (n % 64) }

// worked is a valid book that is worked on without some bad certificates.
type worked struct {
	Book
	byNumber map[int]Cert
	numbers  []int // those of byNumber, rising
	bad      numberSet
	holding  numberSet
}

// workOn finds out which certificates hold. A certificate rests on those of lesser Numbers alone, so that in the order of Numbers these are known before it.
func workOn(b Book, bad ...int) worked {
	w := worked{Book: b, byNumber: map[int]Cert{}}
	for _, c := range b.Certs {
		w.byNumber[c.Number] = c
	}
	w.numbers = slices.Sorted(maps.Keys(w.byNumber))
	for _, n := range bad {
		w.bad.add(n)
	}
	for c := range w.all() {
		if !w.isBad(c) && (w.isStandard(c.By) || some(w.restedOn(c), w.holds)) {
			w.holding.add(c.Number)
		}
	}
	return w
}

func (w worked) isBad(c Cert) bool { return w.bad.has(c.Number) }

func (w worked) holds(c Cert) bool { return w.holding.has(c.Number) }

func (c Cert) isValidOn(day int) bool { return c.Day <= day && day <= c.Day+c.Valid }

// restsOn reports whether d is a certificate of By that was there before c, and valid on the Day of c.
func (c Cert) restsOn(d Cert) bool {
	return d.Item == c.By && d.Number < c.Number && d.isValidOn(c.Day)
}

// all brings each certificate once, in the order of the Numbers.
func (w worked) all() iter.Seq[Cert] {
	return func(bring func(Cert) bool) {
		for _, n := range w.numbers {
			if !bring(w.byNumber[n]) {
				return
			}
		}
	}
}

// restedOn brings the certificates on which one rests.
func (w worked) restedOn(c Cert) iter.Seq[Cert] { return only(w.all(), c.restsOn) }

// validOn brings the certificates of the item that are valid on the day.
func (w worked) validOn(item, day int) iter.Seq[Cert] {
	return only(w.all(), func(c Cert) bool { return c.Item == item && c.isValidOn(day) })
}

func (w worked) isHeld(item, day int) bool {
	return w.isStandard(item) || some(w.validOn(item, day), w.holds)
}

// numbersOf returns the Numbers of the certificates that pass a test, rising.
func (w worked) numbersOf(passes func(Cert) bool) []int {
	var numbers []int
	for c := range only(w.all(), passes) {
		numbers = append(numbers, c.Number)
	}
	return numbers
}

// only brings what passes a test.
func only[T any](all iter.Seq[T], passes func(T) bool) iter.Seq[T] {
	return func(bring func(T) bool) {
		for x := range all {
			if passes(x) && !bring(x) {
				return
			}
		}
	}
}

// some reports whether something passes a test.
func some[T any](all iter.Seq[T], passes func(T) bool) bool {
	for range only(all, passes) {
		return true
	}
	return false
}
