package chain_test

import (
	"math"
	"reflect"
	"slices"
	"testing"

	"tensile/api"
	"tensile/chain"
)

func to(low, high int) chain.Range { return chain.Range{Lo: low, Hi: high} }

func cert(number, item, by, day, valid, low, high int) chain.Cert {
	return chain.Cert{Number: number, Item: item, By: by, Day: day, Valid: valid, Diff: to(low, high)}
}

func standard(low, high int) chain.Item { return chain.Item{Standard: true, Value: to(low, high)} }

func drifts(by int) chain.Item { return chain.Item{Drift: by} }

func book(items []chain.Item, certs ...chain.Cert) chain.Book {
	return chain.Book{Items: items, Certs: certs}
}

// example is the book of the chapter's section Examples, with some more certificates.
func example(more ...chain.Cert) chain.Book {
	certs := []chain.Cert{cert(1, 1, 0, 10, 100, 5, 7), cert(2, 2, 1, 20, 50, -3, -1), cert(3, 2, 0, 30, 200, 0, 20), cert(4, 1, 2, 40, 30, 0, 9)}
	return book([]chain.Item{standard(1000, 1002), drifts(1), drifts(2)}, append(certs, more...)...)
}

// wrong is contradictory: on the day 50 the item 1 would be 1060 at least, but by the certificate 1 it is 1049 at most.
func wrong() chain.Book { return example(cert(5, 1, 0, 50, 9, 60, 60)) }

type place struct{ item, day int }

type badBook struct {
	name string
	b    chain.Book
	e    api.Errno
}

// badBooks are books that are not valid, with their errors.
func badBooks() []badBook {
	all := []badBook{
		{"9 items", book(make([]chain.Item, 9)), api.ErrLimit},
		{"9 items that are not valid", book(slices.Repeat([]chain.Item{drifts(-1)}, 9), cert(1, 1, 1, 0, 0, 0, 0)), api.ErrLimit},
		{"25 certificates", book(example().Items, make([]chain.Cert, 25)...), api.ErrLimit},
		{"one certificate, 25 times", book(example().Items, slices.Repeat(example().Certs[:1], 25)...), api.ErrLimit},
		{"an item that is not valid, with 25 certificates", book([]chain.Item{drifts(-1)}, make([]chain.Cert, 25)...), api.ErrLimit},
		{"a certificate without items", book(nil, cert(1, 1, 0, 0, 0, 0, 0)), api.ErrArg},
		{"one Number with two Diffs", example(cert(4, 1, 2, 40, 30, 0, 8)), api.ErrTwice},
		{"one Number with two Valids", example(cert(1, 1, 0, 10, 99, 5, 7)), api.ErrTwice},
		{"a lesser Day for the greatest Number", example(cert(5, 1, 0, 39, 9, 0, 0)), api.ErrTwice},
		{"a greater Day for a lesser Number", book(example().Items, cert(7, 1, 0, 10, 9, 0, 0), cert(6, 2, 0, 11, 9, 0, 0)), api.ErrTwice},
		{"two that contradict, with one that is not valid", example(cert(4, 1, 2, 40, 30, 0, 8), cert(0, 1, 0, 99, 0, 0, 0)), api.ErrArg},
		{"the same Number 0 twice", example(cert(0, 1, 0, 9, 0, 0, 0), cert(0, 1, 0, 9, 0, 0, 0)), api.ErrArg},
	}
	for _, x := range []chain.Item{
		drifts(-1), drifts(101), drifts(math.MinInt), drifts(math.MaxInt),
		{Drift: -1, Standard: true}, {Drift: 101, Standard: true},
		{Value: to(0, 1)}, {Value: to(-1, 0)}, {Value: to(5, 5)},
		standard(2, 1), standard(-100001, 0), standard(0, 100001), standard(-200000, -150000), standard(math.MinInt, math.MaxInt), standard(math.MaxInt, math.MinInt),
	} {
		b := example()
		b.Items = append(b.Items, x)
		all = append(all, badBook{"an item", b, api.ErrArg})
	}
	for _, x := range []chain.Cert{
		cert(0, 1, 0, 50, 9, 0, 0), cert(-1, 1, 0, 50, 9, 0, 0), cert(1000, 1, 0, 50, 9, 0, 0), cert(math.MaxInt, 1, 0, 50, 9, 0, 0),
		cert(5, 0, 1, 50, 9, 0, 0), cert(5, -1, 0, 50, 9, 0, 0), cert(5, 3, 0, 50, 9, 0, 0), cert(5, math.MinInt, 0, 50, 9, 0, 0),
		cert(5, 1, 1, 50, 9, 0, 0), cert(5, 1, -1, 50, 9, 0, 0), cert(5, 1, 3, 50, 9, 0, 0), cert(5, 1, math.MaxInt, 50, 9, 0, 0),
		cert(5, 1, 0, 1001, 9, 0, 0), cert(5, 1, 0, -1, 9, 0, 0), cert(5, 1, 0, math.MaxInt, 9, 0, 0),
		cert(5, 1, 0, 50, -1, 0, 0), cert(5, 1, 0, 50, 1001, 0, 0), cert(5, 1, 0, 50, math.MaxInt, 0, 0),
		cert(5, 1, 0, 50, 9, 1, 0), cert(5, 1, 0, 50, 9, -100001, 0), cert(5, 1, 0, 50, 9, 0, 100001), cert(5, 1, 0, 50, 9, math.MinInt, math.MaxInt),
	} {
		all = append(all, badBook{"a certificate", example(x), api.ErrArg})
	}
	return all
}

// P2.1
func TestCheckBook(t *testing.T) {
	for _, x := range badBooks() {
		if e := chain.CheckBook(x.b); e != x.e {
			t.Errorf("%s: CheckBook of %v: %v", x.name, x.b, e)
		}
	}
	for _, b := range []chain.Book{
		{}, example(), wrong(),
		book([]chain.Item{}, []chain.Cert{}...),
		book(make([]chain.Item, 8)),
		book(example().Items, slices.Repeat(example().Certs, 6)...),
		book(example().Items, cert(7, 1, 0, 10, 9, 0, 0), cert(6, 2, 0, 10, 9, 0, 0)),
		book([]chain.Item{{Drift: 100, Standard: true, Value: to(-100000, 100000)}, drifts(100)}, cert(999, 1, 0, 1000, 1000, -100000, 100000), cert(1, 1, 0, 0, 0, 100000, 100000)),
	} {
		if e := chain.CheckBook(b); e != api.OK {
			t.Errorf("CheckBook of %v: %v", b, e)
		}
	}
}

// P2.1, P2.2
func TestHeldAndHung(t *testing.T) {
	four := []chain.Item{standard(0, 0), drifts(0), drifts(0), drifts(0)}
	// The items 1 and 2 were certified by each other before any of them was by a standard.
	ring := book(four, cert(1, 1, 2, 5, 9, 0, 0), cert(2, 2, 1, 5, 9, 0, 0), cert(3, 1, 0, 5, 9, 0, 0), cert(4, 2, 1, 5, 9, 0, 0), cert(5, 1, 2, 5, 9, 0, 0))
	line := book(four, cert(10, 1, 0, 5, 3, 0, 0), cert(20, 2, 1, 8, 3, 0, 0), cert(30, 3, 2, 11, 0, 0, 0))
	for _, x := range []struct {
		name       string
		b          chain.Book
		bad        []int
		held, hung []int
	}{
		{"the chapter's example", example(), nil, []int{1, 2, 3, 4}, nil},
		{"an empty list of bad ones", example(), []int{}, []int{1, 2, 3, 4}, nil},
		{"the chapter's example", example(), []int{1}, []int{3, 4}, []int{2}},
		{"the chapter's example", example(), []int{3}, []int{1, 2, 4}, nil},
		{"the chapter's example", example(), []int{1, 3}, nil, []int{2, 4}},
		{"what hung on one that is bad itself", example(), []int{1, 2, 3}, nil, []int{4}},
		{"all of them", example(), []int{1, 2, 3, 4}, nil, nil},
		{"Numbers that none has", example(), []int{5, 63, 64, 998, 999}, []int{1, 2, 3, 4}, nil},
		{"a contradictory book", wrong(), []int{1}, []int{3, 4, 5}, []int{2}},
		{"a ring", ring, nil, []int{3, 4, 5}, nil},
		{"a ring without what holds it", ring, []int{3}, nil, []int{4, 5}},
		{"one that does not hold is bad", ring, []int{1}, []int{3, 4, 5}, nil},
		{"on the last day of each", line, nil, []int{10, 20, 30}, nil},
		{"all hangs on the first", line, []int{10}, nil, []int{20, 30}},
		{"the last", line, []int{20, 30}, []int{10}, nil},
		{"a day too late", book(four, cert(10, 1, 0, 5, 3, 0, 0), cert(20, 2, 1, 9, 3, 0, 0)), nil, []int{10}, nil},
		{"without standards", book([]chain.Item{drifts(1), drifts(1)}, cert(1, 0, 1, 5, 9, 0, 0), cert(2, 1, 0, 5, 9, 0, 0)), nil, nil, nil},
		{"an empty book", chain.Book{}, []int{1}, nil, nil},
	} {
		held, e := chain.Held(x.b, x.bad)
		hung, f := chain.Hung(x.b, x.bad)
		if !slices.Equal(held, x.held) || e != api.OK || !slices.Equal(hung, x.hung) || f != api.OK {
			t.Errorf("%s: Held, Hung without %v: %v, %v; %v, %v", x.name, x.bad, held, e, hung, f)
		}
	}
}

// P2.1, P2.2, R1, R2
func TestHeldAndHungErrors(t *testing.T) {
	ask := func(b chain.Book, bad []int, want api.Errno) {
		t.Helper()
		held, e := chain.Held(b, bad)
		hung, f := chain.Hung(b, bad)
		if e != want || f != want || len(held)+len(hung) > 0 {
			t.Errorf("Held, Hung of %v without %v: %v, %v; %v, %v", b, bad, held, e, hung, f)
		}
	}
	wrongLists := [][]int{{0}, {-1}, {1000}, {2, 1}, {2, 2}, {1, 2, 1000}, {0, 1}, {math.MinInt}, {math.MaxInt}, slices.Repeat([]int{7}, 2000)}
	for _, bad := range wrongLists {
		ask(example(), bad, api.ErrRange)
		ask(chain.Book{}, bad, api.ErrRange)
	}
	for _, x := range badBooks() {
		ask(x.b, nil, x.e)
		ask(x.b, wrongLists[0], x.e)
	}
	all := make([]int, 999)
	for i := range all {
		all[i] = i + 1
	}
	ask(example(), all, api.OK)
}

// P2.3, and the errors of Span and Best
func TestSpan(t *testing.T) {
	farthest := book([]chain.Item{standard(-100000, 100000), drifts(100)}, cert(999, 1, 0, 0, 1000, -100000, 100000))
	for _, x := range []struct {
		name      string
		b         chain.Book
		item, day int
		want      chain.Range
		e         api.Errno
	}{
		{"the chapter's example", example(), 1, 10, to(1005, 1009), api.OK},
		{"the chapter's example", example(), 1, 20, to(995, 1019), api.OK},
		{"the chapter's example", example(), 2, 20, to(992, 1018), api.OK},
		{"the chapter's example", example(), 2, 30, to(1000, 1022), api.OK},
		{"a standard", example(), 0, 0, to(1000, 1002), api.OK},
		{"a standard", example(), 0, 1000, to(1000, 1002), api.OK},
		// By the certificate 1 it is from 975 to 1039; by 4 as 2, which is from 980 to 1042 on the day 40, and up to 9 more.
		{"by two certificates", example(), 1, 40, to(980, 1039), api.OK},
		{"a day before it is valid", example(), 1, 9, chain.Range{}, api.ErrLink},
		{"the last day", example(), 1, 110, to(905, 1109), api.OK},
		{"a day behind it", example(), 1, 111, chain.Range{}, api.ErrLink},
		{"the last day of one of two", example(), 1, 70, to(950, 1069), api.OK},
		{"a day behind this", example(), 1, 71, to(944, 1070), api.OK},
		{"a standard of a contradictory book", wrong(), 0, 5, chain.Range{}, api.ErrFail},
		{"a contradictory book", wrong(), 1, 10, chain.Range{}, api.ErrFail},
		{"not held in a contradictory book", wrong(), 1, 9, chain.Range{}, api.ErrLink},
		{"an item without certificates", book([]chain.Item{drifts(1)}), 0, 5, chain.Range{}, api.ErrLink},
		{"a certificate of a later Number does not count for one before it", book([]chain.Item{standard(0, 0), drifts(0), drifts(0)}, cert(1, 1, 0, 5, 9, 0, 9), cert(2, 2, 1, 5, 9, 0, 0), cert(3, 1, 0, 5, 9, 4, 4)), 2, 5, to(0, 9), api.OK},
		{"the greatest numbers", farthest, 1, 1000, to(-300000, 300000), api.OK},
		{"no item", example(), 3, 5, chain.Range{}, api.ErrRange},
		{"no item", example(), -1, 5, chain.Range{}, api.ErrRange},
		{"no item", example(), math.MinInt, 5, chain.Range{}, api.ErrRange},
		{"no item", chain.Book{}, 0, 5, chain.Range{}, api.ErrRange},
		{"no day", example(), 0, -1, chain.Range{}, api.ErrRange},
		{"no day", example(), 0, 1001, chain.Range{}, api.ErrRange},
		{"no day of a contradictory book", wrong(), 1, math.MaxInt, chain.Range{}, api.ErrRange},
	} {
		if r, e := chain.Span(x.b, x.item, x.day); r != x.want || e != x.e {
			t.Errorf("%s: Span of %d on %d: %v, %v", x.name, x.item, x.day, r, e)
		}
		want := x.e
		if want == api.ErrFail {
			want = api.OK
		}
		if l, e := chain.Best(x.b, x.item, x.day); e != want || e != api.OK && len(l) > 0 {
			t.Errorf("%s: Best of %d on %d: %v, %v", x.name, x.item, x.day, l, e)
		}
	}
	for _, x := range badBooks() {
		for _, at := range []place{{0, 5}, {-1, 5}, {2, 1001}} {
			if r, e := chain.Span(x.b, at.item, at.day); e != x.e || r != (chain.Range{}) {
				t.Errorf("%s: Span at %v: %v, %v", x.name, at, r, e)
			}
			if l, e := chain.Best(x.b, at.item, at.day); e != x.e || len(l) > 0 {
				t.Errorf("%s: Best at %v: %v, %v", x.name, at, l, e)
			}
		}
	}
}

// P2.4
func TestBest(t *testing.T) {
	items := []chain.Item{standard(0, 0), drifts(0), drifts(0), drifts(0), standard(0, 0)}
	// From the item 3 there are two ways back of three certificates, by 1 and 6 or by 2 and 5.
	ways := book(items, cert(1, 1, 0, 5, 9, 0, 0), cert(2, 2, 4, 5, 9, 0, 0), cert(3, 3, 2, 5, 9, 0, 0), cert(4, 3, 1, 5, 9, 0, 0), cert(5, 1, 3, 6, 0, 0, 0), cert(6, 2, 3, 7, 0, 0, 0))
	for _, x := range []struct {
		name      string
		b         chain.Book
		item, day int
		want      []int
	}{
		{"the chapter's example", example(), 2, 30, []int{3}},
		{"the chapter's example", example(), 2, 25, []int{1, 2}},
		{"the chapter's example", example(), 0, 5, nil},
		{"a shorter one of a greater Number", example(), 2, 70, []int{3}},
		{"the lesser of two of one certificate", example(cert(7, 2, 0, 40, 9, 0, 20)), 2, 40, []int{3}},
		{"the first Number decides, not the last", ways, 3, 5, []int{1, 4}},
		{"two ways of one certificate", ways, 1, 6, []int{1}},
		{"by another standard", ways, 2, 7, []int{2}},
		{"an item comes twice", book(items, cert(1, 1, 0, 5, 1, 0, 0), cert(2, 2, 1, 6, 9, 0, 0), cert(3, 1, 2, 7, 9, 0, 0)), 1, 7, []int{1, 2, 3}},
		{"of a contradictory book", wrong(), 1, 50, []int{1}},
	} {
		if l, e := chain.Best(x.b, x.item, x.day); !slices.Equal(l, x.want) || e != api.OK {
			t.Errorf("%s: Best of %d on %d: %v, %v", x.name, x.item, x.day, l, e)
		}
		if !chain.ProveChain(x.b, x.item, x.day, x.want) {
			t.Errorf("%s: ProveChain of %v", x.name, x.want)
		}
	}
}

// P2.4, R11
func TestProveChain(t *testing.T) {
	for _, x := range []struct {
		at    place
		chain []int
		want  bool
	}{
		{place{2, 30}, []int{3}, true},
		{place{2, 30}, []int{1, 2}, true},
		{place{1, 50}, []int{1}, true},
		{place{1, 50}, []int{1, 2, 4}, true},
		{place{1, 50}, []int{3, 4}, true},
		{place{1, 70}, []int{3, 4}, true},
		{place{1, 71}, []int{3, 4}, false},
		{place{1, 39}, []int{3, 4}, false},
		{place{1, 50}, []int{2, 4}, false},
		{place{1, 50}, []int{4}, false},
		{place{1, 50}, []int{1, 4}, false},
		{place{1, 50}, []int{3}, false},
		{place{2, 50}, []int{1}, false},
		{place{1, 50}, []int{2, 1}, false},
		{place{1, 50}, []int{1, 1}, false},
		{place{1, 50}, []int{1, 3, 4}, false},
		{place{2, 30}, nil, false},
		{place{2, 30}, []int{9}, false},
		{place{2, 30}, []int{3, 9}, false},
		{place{2, 30}, []int{9, 3}, false},
		{place{2, 30}, []int{0}, false},
		{place{2, 30}, []int{1000, math.MaxInt, math.MinInt, -1}, false},
		{place{0, 5}, nil, true},
		{place{0, 5}, []int{}, true},
		{place{0, 50}, []int{1}, false},
		{place{0, -1}, nil, false},
		{place{0, 1001}, nil, false},
		{place{3, 5}, nil, false},
		{place{-1, 5}, nil, false},
		{place{2, math.MinInt}, []int{3}, false},
	} {
		for _, b := range []chain.Book{example(), wrong()} {
			if chain.ProveChain(b, x.at.item, x.at.day, x.chain) != x.want {
				t.Errorf("ProveChain of %v at %v", x.chain, x.at)
			}
		}
	}
	for _, x := range badBooks() {
		if chain.ProveChain(x.b, 0, 5, nil) || chain.ProveChain(x.b, 2, 30, []int{3}) {
			t.Errorf("%s: ProveChain", x.name)
		}
	}
}

// P2.5
func TestSuspects(t *testing.T) {
	two := []chain.Item{standard(0, 0), drifts(0)}
	three := []chain.Item{standard(0, 0), drifts(0), drifts(1)}
	for _, x := range []struct {
		name string
		b    chain.Book
		want []int
		e    api.Errno
	}{
		{"the chapter's example", example(), nil, api.ErrNone},
		{"an empty book", chain.Book{}, nil, api.ErrNone},
		{"one of two", wrong(), []int{1, 5}, api.OK},
		{"certificates that come twice", example(example().Certs...), nil, api.ErrNone},
		{"two suspects that come twice", example(append(example().Certs, cert(5, 1, 0, 50, 9, 60, 60), cert(5, 1, 0, 50, 9, 60, 60))...), []int{1, 5}, api.OK},
		{"against two others", book(two, cert(1, 1, 0, 3, 9, 5, 5), cert(2, 1, 0, 4, 9, 9, 9), cert(3, 1, 0, 5, 9, 9, 9)), []int{1}, api.OK},
		{"three that all differ", book(two, cert(1, 1, 0, 3, 9, 5, 5), cert(2, 1, 0, 4, 9, 9, 9), cert(3, 1, 0, 5, 9, 7, 7)), nil, api.OK},
		{"each two of three have some in common", book(two, cert(1, 1, 0, 3, 9, 0, 2), cert(2, 1, 0, 4, 9, 2, 4), cert(3, 1, 0, 5, 9, 3, 5)), []int{1, 3}, api.OK},
		{"on the last day", book(two, cert(1, 1, 0, 3, 2, 5, 5), cert(2, 1, 0, 5, 9, 9, 9)), []int{1, 2}, api.OK},
		{"a day later", book(two, cert(1, 1, 0, 3, 2, 5, 5), cert(2, 1, 0, 6, 9, 9, 9)), nil, api.ErrNone},
		{"what it drifts is just enough", book(three, cert(1, 2, 0, 3, 9, 5, 5), cert(2, 2, 0, 5, 9, 7, 7)), nil, api.ErrNone},
		{"and not enough", book(three, cert(1, 2, 0, 3, 9, 5, 5), cert(2, 2, 0, 5, 9, 8, 8)), []int{1, 2}, api.OK},
		{"by way of another item", book(three, cert(1, 1, 0, 3, 9, 5, 5), cert(2, 2, 1, 3, 9, 1, 1), cert(3, 2, 0, 3, 9, 9, 9)), []int{1, 2, 3}, api.OK},
		// On the day 3 the item 1 has nothing in common with itself, and what was certified by it then is too wide to tell.
		{"under another item", book([]chain.Item{standard(0, 0), drifts(0), drifts(100)}, cert(1, 1, 0, 3, 9, 5, 5), cert(2, 1, 0, 3, 9, 6, 6), cert(3, 2, 1, 4, 9, 0, 90)), []int{1, 2}, api.OK},
		{"what does not hold contradicts nothing", book(three, cert(1, 1, 2, 3, 9, 5, 5), cert(2, 1, 0, 4, 9, 9, 9)), nil, api.ErrNone},
	} {
		if l, e := chain.Suspects(x.b); !slices.Equal(l, x.want) || e != x.e {
			t.Errorf("%s: Suspects: %v, %v", x.name, l, e)
		}
	}
	for _, x := range badBooks() {
		if l, e := chain.Suspects(x.b); e != x.e || len(l) > 0 {
			t.Errorf("%s: Suspects: %v, %v", x.name, l, e)
		}
	}
}

// R4
func TestMemory(t *testing.T) {
	b, bad, path := wrong(), []int{1, 3}, []int{1, 2, 4}
	call := func() [][]int {
		held, _ := chain.Held(b, nil)
		rest, _ := chain.Held(b, bad)
		hung, _ := chain.Hung(b, bad)
		best, _ := chain.Best(b, 2, 25)
		suspects, _ := chain.Suspects(b)
		chain.Span(b, 1, 20)
		chain.ProveChain(b, 1, 50, path)
		return [][]int{held, rest, hung, best, suspects}
	}
	first, second := call(), call()
	for _, list := range first {
		list = list[:cap(list)]
		for i := range list {
			list[i] = -7
		}
	}
	if !reflect.DeepEqual(second, call()) {
		t.Errorf("after results were written to: %v", second)
	}
	if !reflect.DeepEqual(b, wrong()) || !slices.Equal(bad, []int{1, 3}) || !slices.Equal(path, []int{1, 2, 4}) {
		t.Errorf("arguments were written to: %v, %v, %v", b, bad, path)
	}
}
