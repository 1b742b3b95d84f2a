package chain_test

import (
	"cmp"
	"iter"
	"math/rand/v2"
	"slices"
	"testing"

	"tensile/api"
	"tensile/chain"
)

// The functions of this file say word for word what the chapter's definitions do, and keep nothing.

func valid(c chain.Cert, day int) bool { return c.Day <= day && day <= c.Day+c.Valid }

func once(b chain.Book) []chain.Cert {
	var all []chain.Cert
	for _, c := range b.Certs {
		if !slices.Contains(all, c) {
			all = append(all, c)
		}
	}
	slices.SortFunc(all, func(c, d chain.Cert) int { return cmp.Compare(c.Number, d.Number) })
	return all
}

func rests(b chain.Book, c chain.Cert) []chain.Cert {
	var all []chain.Cert
	for _, d := range once(b) {
		if d.Item == c.By && d.Number < c.Number && valid(d, c.Day) {
			all = append(all, d)
		}
	}
	return all
}

func holds(b chain.Book, bad []int, c chain.Cert) bool {
	if slices.Contains(bad, c.Number) {
		return false
	}
	return b.Items[c.By].Standard || slices.ContainsFunc(rests(b, c), func(d chain.Cert) bool { return holds(b, bad, d) })
}

// holding returns those that hold without the bad ones.
func holding(b chain.Book, bad ...int) []chain.Cert {
	return slices.DeleteFunc(once(b), func(c chain.Cert) bool { return !holds(b, bad, c) })
}

// on returns the certificates of the item that hold, and are valid on the day.
func on(b chain.Book, at place) []chain.Cert {
	return slices.DeleteFunc(holding(b), func(c chain.Cert) bool { return c.Item != at.item || !valid(c, at.day) })
}

func isHeld(b chain.Book, at place) bool { return b.Items[at.item].Standard || len(on(b, at)) > 0 }

// chains brings all chains that end in the certificate.
func chains(b chain.Book, c chain.Cert) iter.Seq[[]int] {
	return func(bring func([]int) bool) {
		if b.Items[c.By].Standard && !bring([]int{c.Number}) {
			return
		}
		for _, d := range rests(b, c) {
			for list := range chains(b, d) {
				if !bring(append(list, c.Number)) {
					return
				}
			}
		}
	}
}

// chainsAt returns all chains of an item on a day, the best one first.
func chainsAt(b chain.Book, at place) [][]int {
	if b.Items[at.item].Standard {
		return [][]int{nil}
	}
	var all [][]int
	for _, c := range on(b, at) {
		all = slices.AppendSeq(all, chains(b, c))
	}
	slices.SortFunc(all, func(x, y []int) int { return cmp.Or(cmp.Compare(len(x), len(y)), slices.Compare(x, y)) })
	return all
}

func spanBy(b chain.Book, at place, by []chain.Cert) chain.Range {
	x := b.Items[at.item]
	if x.Standard {
		return x.Value
	}
	var all chain.Range
	for i, c := range by {
		held := slices.DeleteFunc(rests(b, c), func(d chain.Cert) bool { return !holds(b, nil, d) })
		span := spanBy(b, place{c.By, c.Day}, held)
		low, high := span.Lo+c.Diff.Lo-x.Drift*(at.day-c.Day), span.Hi+c.Diff.Hi+x.Drift*(at.day-c.Day)
		if i == 0 {
			all = to(low, high)
		}
		all = to(max(all.Lo, low), min(all.Hi, high))
	}
	return all
}

func contradictory(b chain.Book) bool {
	for _, c := range holding(b) {
		at := place{c.Item, c.Day}
		if span := spanBy(b, at, on(b, at)); span.Lo > span.Hi {
			return true
		}
	}
	return false
}

// less returns the book without some certificates.
func less(b chain.Book, out func(c chain.Cert) bool) chain.Book {
	return book(b.Items, slices.DeleteFunc(slices.Clone(b.Certs), out)...)
}

func without(b chain.Book, number int) chain.Book {
	return less(b, func(c chain.Cert) bool { return c.Number == number })
}

func numbers(certs []chain.Cert) []int {
	var all []int
	for _, c := range certs {
		all = append(all, c.Number)
	}
	return all
}

const lastDay = 12

// places brings each item with some days.
func places(b chain.Book) iter.Seq[place] {
	return func(bring func(place) bool) {
		for item := range b.Items {
			for day := range lastDay + 6 {
				if !bring(place{item, day}) {
					return
				}
			}
		}
	}
}

// anyItems returns 2 to 6 items, some of them standards.
func anyItems(dice *rand.Rand) []chain.Item {
	items := []chain.Item{standard(0, dice.IntN(3))}
	for range 1 + dice.IntN(5) {
		x := drifts(dice.IntN(3))
		if dice.IntN(5) == 0 {
			low := dice.IntN(9) - 4
			x = standard(low, low+dice.IntN(3))
		}
		items = append(items, x)
	}
	dice.Shuffle(len(items), func(i, j int) { items[i], items[j] = items[j], items[i] })
	return items
}

// anyBook returns a valid book, some certificates of which come twice.
func anyBook(dice *rand.Rand, certs int) chain.Book {
	b := book(anyItems(dice))
	number, day := 0, 0
	for range dice.IntN(certs + 1) {
		number += 1 + dice.IntN(3)
		day = min(lastDay, day+dice.IntN(3))
		item, by := dice.IntN(len(b.Items)), dice.IntN(len(b.Items))
		if item == by || b.Items[item].Standard {
			continue
		}
		low := dice.IntN(9) - 4
		b.Certs = append(b.Certs, cert(number, item, by, day, dice.IntN(9), low, low+dice.IntN(6)))
	}
	return mixed(dice, b)
}

// mixed returns the book with its certificates in another order, some of them twice.
func mixed(dice *rand.Rand, b chain.Book) chain.Book {
	certs := slices.Clone(b.Certs)
	for _, c := range b.Certs {
		if len(certs) < api.MaxChainCerts && dice.IntN(4) == 0 {
			certs = append(certs, c)
		}
	}
	dice.Shuffle(len(certs), func(i, j int) { certs[i], certs[j] = certs[j], certs[i] })
	return book(b.Items, certs...)
}

// books brings books of up to so many certificates, the same ones each time.
func books(many, certs int) iter.Seq[chain.Book] {
	return func(bring func(chain.Book) bool) {
		dice := rand.New(rand.NewPCG(2, uint64(certs)))
		for range many {
			if !bring(anyBook(dice, certs)) {
				return
			}
		}
	}
}

// allBooks brings many small books and some as large as they may be.
func allBooks() iter.Seq[chain.Book] {
	return func(bring func(chain.Book) bool) {
		for b := range books(600, 9) {
			if !bring(b) {
				return
			}
		}
		for b := range books(40, api.MaxChainCerts) {
			if !bring(b) {
				return
			}
		}
	}
}

// someBad returns a rising list of Numbers, those of certificates and others.
func someBad(dice *rand.Rand) []int {
	var bad []int
	for n := 1; n < 30; n++ {
		if dice.IntN(6) == 0 {
			bad = append(bad, n)
		}
	}
	return bad
}

// P2.1, P2.2
func TestHeldByHand(t *testing.T) {
	dice := rand.New(rand.NewPCG(3, 1))
	some := 0
	for b := range allBooks() {
		for range 5 {
			bad := someBad(dice)
			held, e := chain.Held(b, bad)
			hung, f := chain.Hung(b, bad)
			rest := numbers(holding(b, bad...))
			fell := slices.DeleteFunc(numbers(holding(b)), func(n int) bool { return slices.Contains(rest, n) || slices.Contains(bad, n) })
			some += len(fell)
			if !slices.Equal(held, rest) || !slices.Equal(hung, fell) || e != api.OK || f != api.OK {
				t.Fatalf("%v without %v: %v, %v; %v, %v, not %v, %v", b, bad, held, e, hung, f, rest, fell)
			}
		}
	}
	if some == 0 {
		t.Error("nothing ever hung on the bad ones")
	}
}

// P2.3, P2.4
func TestSpanAndBestByHand(t *testing.T) {
	var linked, failed, several int
	for b := range allBooks() {
		fails := contradictory(b)
		for at := range places(b) {
			want, wantBest, e, f := chain.Range{}, []int(nil), api.ErrLink, api.ErrLink
			if isHeld(b, at) {
				all := chainsAt(b, at)
				wantBest, e, f = all[0], api.ErrFail, api.OK
				linked++
				several += len(all) - 1
			}
			if e == api.ErrFail && fails {
				failed++
			} else if e == api.ErrFail {
				want, e = spanBy(b, at, on(b, at)), api.OK
			}
			if r, n := chain.Span(b, at.item, at.day); r != want || n != e {
				t.Fatalf("Span at %v of %v: %v, %v, not %v, %v", at, b, r, n, want, e)
			}
			if l, n := chain.Best(b, at.item, at.day); !slices.Equal(l, wantBest) || n != f {
				t.Fatalf("Best at %v of %v: %v, %v, not %v, %v", at, b, l, n, wantBest, f)
			}
		}
	}
	if linked == 0 || failed == 0 || failed == linked || several == 0 {
		t.Errorf("%d spans, %d of contradictory books; %d chains that are not the best", linked, failed, several)
	}
}

// P2.4
func TestProveChainByHand(t *testing.T) {
	dice := rand.New(rand.NewPCG(3, 2))
	for b := range books(60, 6) {
		all := numbers(once(b))
		lists := [][]int{nil}
		for _, n := range all {
			for _, list := range lists {
				lists = append(lists, append(slices.Clone(list), n))
			}
		}
		for range 30 {
			var list []int
			for range 1 + dice.IntN(4) {
				list = append(list, dice.IntN(22)-1)
			}
			lists = append(lists, list)
		}
		for at := range places(b) {
			var proved [][]int
			if isHeld(b, at) {
				proved = chainsAt(b, at)
			}
			for _, list := range lists {
				want := slices.ContainsFunc(proved, func(p []int) bool { return slices.Equal(p, list) })
				if chain.ProveChain(b, at.item, at.day, list) != want {
					t.Fatalf("ProveChain of %v at %v of %v is not %v", list, at, b, want)
				}
			}
		}
	}
}

// P2.5
func TestSuspectsByHand(t *testing.T) {
	counts := map[int]int{}
	for b := range allBooks() {
		var want []int
		e := api.ErrNone
		if contradictory(b) {
			e = api.OK
			for _, n := range numbers(once(b)) {
				if !contradictory(without(b, n)) {
					want = append(want, n)
				}
			}
			counts[len(want)]++
		}
		if l, n := chain.Suspects(b); !slices.Equal(l, want) || n != e {
			t.Fatalf("Suspects of %v: %v, %v, not %v, %v", b, l, n, want, e)
		}
	}
	for many := range 3 {
		if counts[many] == 0 {
			t.Errorf("no book with %d suspects", many)
		}
	}
}
