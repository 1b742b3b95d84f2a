package chain_test

import (
	"iter"
	"math/rand/v2"
	"slices"
	"testing"

	"tensile/api"
	"tensile/chain"
)

// truth has a value for each item and each day, from 0 to one behind which no certificate is made.
type truth [][]int

func within(r chain.Range, n int) bool { return r.Lo <= n && n <= r.Hi }

func (x truth) isOf(b chain.Book) bool {
	for i, item := range b.Items {
		drift := item.Drift
		if item.Standard {
			drift = 0
		}
		if item.Standard && !within(item.Value, x[i][0]) {
			return false
		}
		for day := 1; day < len(x[i]); day++ {
			if !within(to(-drift, drift), x[i][day]-x[i][day-1]) {
				return false
			}
		}
	}
	return !slices.ContainsFunc(b.Certs, func(c chain.Cert) bool {
		return !within(c.Diff, x[c.Item][c.Day]-x[c.By][c.Day])
	})
}

// anyTruth returns values of the items as they may be without certificates.
func anyTruth(dice *rand.Rand, items []chain.Item) truth {
	var all truth
	for _, x := range items {
		value, drift := dice.IntN(40)-20, x.Drift
		if x.Standard {
			value, drift = x.Value.Lo+dice.IntN(x.Value.Hi-x.Value.Lo+1), 0
		}
		var values []int
		for range lastDay + 7 {
			values = append(values, value)
			value += dice.IntN(2*drift+1) - drift
		}
		all = append(all, values)
	}
	return all
}

// trueBook returns a book with one of its truths.
func trueBook(dice *rand.Rand) (chain.Book, truth) {
	b := anyBook(dice, api.MaxChainCerts)
	x := anyTruth(dice, b.Items)
	for _, c := range once(b) {
		diff := x[c.Item][c.Day] - x[c.By][c.Day]
		c.Diff = to(diff-dice.IntN(4), diff+dice.IntN(4))
		for j := range b.Certs {
			if b.Certs[j].Number == c.Number {
				b.Certs[j] = c
			}
		}
	}
	return b, x
}

// holdsAll asks for all spans of a book that has the truth.
func holdsAll(t *testing.T, b chain.Book, x truth) (held int) {
	t.Helper()
	for at := range places(b) {
		if at.day >= len(x[at.item]) {
			continue
		}
		r, e := chain.Span(b, at.item, at.day)
		if e != api.OK && e != api.ErrLink || e == api.OK && !within(r, x[at.item][at.day]) {
			t.Fatalf("Span at %v of %v: %v, %v, with the truth %v", at, b, r, e, x)
		}
		if e == api.OK && !b.Items[at.item].Standard {
			held++
		}
	}
	if l, e := chain.Suspects(b); e != api.ErrNone {
		t.Fatalf("Suspects of %v: %v, %v, with the truth %v", b, l, e, x)
	}
	return held
}

// P2.6
func TestTruthIsInSpans(t *testing.T) {
	dice := rand.New(rand.NewPCG(6, 1))
	held := 0
	for range 500 {
		b, x := trueBook(dice)
		if !x.isOf(b) {
			t.Fatalf("%v is no truth of %v", x, b)
		}
		held += holdsAll(t, b, x)
	}
	if held == 0 {
		t.Error("no item is ever held")
	}
}

// walks brings all values of an item on three days, from -5 to 5 on the first one.
func walks(x chain.Item) iter.Seq[[]int] {
	return func(bring func([]int) bool) {
		first, drift := to(-5, 5), x.Drift
		if x.Standard {
			first, drift = x.Value, 0
		}
		for a := first.Lo; a <= first.Hi; a++ {
			for b := a - drift; b <= a+drift; b++ {
				for c := b - drift; c <= b+drift; c++ {
					if !bring([]int{a, b, c}) {
						return
					}
				}
			}
		}
	}
}

// P2.6: of books that are made without any truth in mind, all truths of small values.
func TestAllTruths(t *testing.T) {
	dice := rand.New(rand.NewPCG(6, 2))
	several := 0
	for range 60 {
		b := book([]chain.Item{standard(0, 1), drifts(dice.IntN(2)), drifts(dice.IntN(2))})
		for n := range 5 {
			item := 1 + dice.IntN(2)
			by := []int{0, 3 - item}[dice.IntN(2)]
			low := dice.IntN(5) - 3
			b.Certs = append(b.Certs, cert(n+1, item, by, (n+1)/2, dice.IntN(3), low, low+dice.IntN(4)))
		}
		for a := range walks(b.Items[0]) {
			for c := range walks(b.Items[1]) {
				for d := range walks(b.Items[2]) {
					if x := (truth{a, c, d}); x.isOf(b) {
						holdsAll(t, b, x)
						several++
					}
				}
			}
		}
	}
	if several == 0 {
		t.Error("no book has a truth")
	}
}

// singles returns a book in which no item has more than one certificate, and all hold.
func singles(dice *rand.Rand) chain.Book {
	b := book([]chain.Item{standard(dice.IntN(3), 3+dice.IntN(3))})
	for n := 1; n < 2+dice.IntN(6); n++ {
		by := dice.IntN(n)
		// Each one is made on the next day: so all that it may rest on is valid for long enough.
		low := dice.IntN(9) - 4
		b.Items = append(b.Items, drifts(dice.IntN(4)))
		b.Certs = append(b.Certs, cert(n, n, by, n, lastDay-dice.IntN(3), low, low+dice.IntN(6)))
	}
	return mixed(dice, b)
}

// extreme returns the truth of such a book in which all values are as great as they can be, or, with the sign -1, as small.
func extreme(b chain.Book, sign int) truth {
	end := func(r chain.Range) int {
		if sign > 0 {
			return r.Hi
		}
		return r.Lo
	}
	x := truth{slices.Repeat([]int{end(b.Items[0].Value)}, lastDay+7)}
	for _, c := range once(b) {
		value := x[c.By][c.Day] + end(c.Diff)
		values := slices.Repeat([]int{value}, c.Day)
		for day := c.Day; day < lastDay+7; day++ {
			values = append(values, value+sign*b.Items[c.Item].Drift*(day-c.Day))
		}
		x = append(x, values)
	}
	return x
}

// P2.11
func TestEndsAreReached(t *testing.T) {
	dice := rand.New(rand.NewPCG(11, 1))
	for range 300 {
		b := singles(dice)
		most, least := extreme(b, 1), extreme(b, -1)
		if len(holding(b)) != len(b.Items)-1 || !most.isOf(b) || !least.isOf(b) {
			t.Fatalf("%v has not the truths %v, %v", b, most, least)
		}
		for at := range places(b) {
			want := to(least[at.item][at.day], most[at.item][at.day])
			if r, e := chain.Span(b, at.item, at.day); e != api.ErrLink && (e != api.OK || r != want) {
				t.Fatalf("Span at %v of %v: %v, %v, not %v", at, b, r, e, want)
			}
		}
	}
}

// P2.12
func TestWhoIsWrong(t *testing.T) {
	dice := rand.New(rand.NewPCG(12, 1))
	failed := 0
	for range 500 {
		b, _ := trueBook(dice)
		all := once(b)
		if len(all) == 0 {
			continue
		}
		wrong := all[dice.IntN(len(all))]
		changed := wrong
		off := dice.IntN(60) - 30
		changed.Diff = to(wrong.Diff.Lo+off, wrong.Diff.Hi+off)
		for i, c := range b.Certs {
			if c == wrong {
				b.Certs[i] = changed
			}
		}
		l, e := chain.Suspects(b)
		if e == api.ErrNone {
			continue
		}
		failed++
		if e != api.OK || !slices.Contains(l, wrong.Number) {
			t.Fatalf("Suspects of %v: %v, %v, not %d", b, l, e, wrong.Number)
		}
	}
	if failed == 0 {
		t.Error("no book is contradictory")
	}
}
