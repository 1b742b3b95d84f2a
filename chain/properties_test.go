package chain_test

import (
	"math/rand/v2"
	"reflect"
	"slices"
	"testing"

	"tensile/api"
	"tensile/chain"
)

// answer is what is told of an item on a day.
type answer struct {
	span        chain.Range
	best        []int
	noSpan, not api.Errno
}

// told is all that is told of a book.
type told struct {
	check, none          api.Errno
	held, hung, suspects []int
	answers              []answer
}

func held(b chain.Book, bad ...int) []int {
	l, _ := chain.Held(b, bad)
	return l
}

func hung(b chain.Book, bad ...int) []int {
	l, _ := chain.Hung(b, bad)
	return l
}

func fails(b chain.Book) bool {
	_, e := chain.Suspects(b)
	return e != api.ErrNone
}

func ask(b chain.Book, at place) answer {
	var a answer
	a.span, a.noSpan = chain.Span(b, at.item, at.day)
	a.best, a.not = chain.Best(b, at.item, at.day)
	return a
}

func tell(b chain.Book, bad []int) told {
	x := told{check: chain.CheckBook(b), held: held(b, bad...), hung: hung(b, bad...)}
	x.suspects, x.none = chain.Suspects(b)
	for at := range places(b) {
		x.answers = append(x.answers, ask(b, at))
	}
	return x
}

func contains(all, part []int) bool {
	return !slices.ContainsFunc(part, func(n int) bool { return !slices.Contains(all, n) })
}

// P2.7
func TestJustWhatHungOnIt(t *testing.T) {
	dice := rand.New(rand.NewPCG(7, 1))
	for b := range allBooks() {
		bad := someBad(dice)
		rest := less(b, func(c chain.Cert) bool { return slices.Contains(bad, c.Number) })
		hasChain := func(b chain.Book, c chain.Cert) bool {
			for range chains(b, c) {
				return true
			}
			return false
		}
		fell := hung(b, bad...)
		for _, c := range once(b) {
			if slices.Contains(fell, c.Number) && (slices.Contains(bad, c.Number) || !hasChain(b, c) || hasChain(rest, c)) {
				t.Fatalf("%d did not hang on %v in %v", c.Number, bad, b)
			}
			if slices.Contains(held(b), c.Number) && !slices.Contains(bad, c.Number) && !slices.Contains(fell, c.Number) && !hasChain(rest, c) {
				t.Fatalf("%d hung on %v in %v", c.Number, bad, b)
			}
		}
		if more := append(slices.Clone(bad), 50, 60); len(hung(b, more...)) != len(fell) {
			t.Fatalf("Hung of %v on Numbers that none has", b)
		}
		for i := range bad {
			fewer := slices.Delete(slices.Clone(bad), i, i+1)
			if !contains(held(b, fewer...), held(b, bad...)) {
				t.Fatalf("more of %v holds without %v than without %v", b, bad, fewer)
			}
		}
	}
}

// P2.8, P6
func TestAnyOrder(t *testing.T) {
	dice := rand.New(rand.NewPCG(8, 1))
	for b := range allBooks() {
		bad := someBad(dice)
		want := tell(b, bad)
		for _, other := range []chain.Book{mixed(dice, b), mixed(dice, b), book(b.Items, once(b)...)} {
			if got := tell(other, bad); !reflect.DeepEqual(got, want) {
				t.Fatalf("%v tells %v, %v tells %v", other, got, b, want)
			}
		}
	}
}

// P2.9
func TestOneMore(t *testing.T) {
	narrower := 0
	for b := range books(200, 12) {
		for _, c := range once(b) {
			before := without(b, c.Number)
			if !contains(held(b), held(before)) {
				t.Fatalf("with %v less of %v holds", c, before)
			}
			if fails(b) {
				continue
			}
			for at := range places(b) {
				r, e := chain.Span(before, at.item, at.day)
				s, f := chain.Span(b, at.item, at.day)
				if e == api.OK && (f != api.OK || s.Lo < r.Lo || s.Hi > r.Hi) {
					t.Fatalf("Span at %v with %v: %v, %v, not in %v", at, c, s, f, r)
				}
				if e == api.OK && r != s {
					narrower++
				}
			}
		}
	}
	if narrower == 0 {
		t.Error("no span is ever narrower")
	}
}

// P2.10
func TestDaysToCome(t *testing.T) {
	for b := range allBooks() {
		if fails(b) {
			continue
		}
		for at := range places(b) {
			past := less(b, func(c chain.Cert) bool { return c.Day > at.day })
			if a, want := ask(b, at), ask(past, at); !reflect.DeepEqual(a, want) {
				t.Fatalf("at %v of %v: %v, without later days %v", at, b, a, want)
			}
		}
	}
}

// P2.13
func TestMoved(t *testing.T) {
	dice := rand.New(rand.NewPCG(13, 1))
	for b := range allBooks() {
		by := dice.IntN(2001) - 1000
		moved := book(slices.Clone(b.Items), b.Certs...)
		for i, x := range b.Items {
			if x.Standard {
				moved.Items[i].Value = to(x.Value.Lo+by, x.Value.Hi+by)
			}
		}
		bad := someBad(dice)
		got, want := tell(moved, bad), tell(b, bad)
		for i, a := range want.answers {
			if a.noSpan == api.OK {
				want.answers[i].span = to(a.span.Lo+by, a.span.Hi+by)
			}
		}
		if !reflect.DeepEqual(got, want) {
			t.Fatalf("moved by %d %v tells %v, not %v", by, b, got, want)
		}
	}
}

// P1
func TestAnyArguments(t *testing.T) {
	dice := rand.New(rand.NewPCG(1, 1))
	wild := func() int {
		return []int{-1 << 63, 1<<63 - 1, -1, 0, 1, 2, 3, 999, 1000, 1001, 100000}[dice.IntN(11)]
	}
	for range 20000 {
		var b chain.Book
		for range dice.IntN(4) {
			b.Items = append(b.Items, chain.Item{Drift: dice.IntN(2) * wild(), Standard: dice.IntN(2) == 0, Value: to(0, dice.IntN(2)*wild())})
		}
		for range dice.IntN(4) {
			b.Certs = append(b.Certs, cert(wild(), dice.IntN(3), wild(), wild(), wild(), 0, dice.IntN(2)*wild()))
		}
		list := []int{wild(), wild(), wild()}[:dice.IntN(4)]
		item, day := wild(), wild()
		chain.CheckBook(b)
		chain.Held(b, list)
		chain.Hung(b, list)
		chain.Span(b, item, day)
		chain.Best(b, item, day)
		chain.ProveChain(b, item, day, list)
		chain.Suspects(b)
	}
}
