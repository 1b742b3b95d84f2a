package hard_test

import (
	"math"
	"reflect"
	"slices"
	"testing"

	"tensile/api"
	"tensile/hard"
)

func to(low, high int) hard.Range { return hard.Range{Lo: low, Hi: high} }

func all() hard.Range { return to(0, api.MaxHardValue) }

func block(low, high, read int) hard.Block { return hard.Block{Value: to(low, high), Read: read} }

func machine(scale int, l ...hard.Block) hard.Machine { return hard.Machine{Scale: scale, Blocks: l} }

// rows returns rows of pairs of X and Y.
func rows(l ...int) []hard.Row {
	var all []hard.Row
	for pair := range slices.Chunk(l, 2) {
		all = append(all, hard.Row{X: pair[0], Y: pair[1]})
	}
	return all
}

func table(from, into, err int, l ...int) hard.Table {
	return hard.Table{From: from, To: into, Err: err, Rows: rows(l...)}
}

func broken(t hard.Table, breaks ...int) hard.Table {
	t.Breaks = breaks
	return t
}

// read returns readings of pairs of a machine and what it read.
func read(l ...int) []hard.Reading {
	var all []hard.Reading
	for pair := range slices.Chunk(l, 2) {
		all = append(all, hard.Reading{Machine: pair[0], Read: pair[1]})
	}
	return all
}

func book(scales int, tables []hard.Table, machines ...hard.Machine) hard.Book {
	return hard.Book{Scales: scales, Tables: tables, Machines: machines}
}

func tables(l ...hard.Table) []hard.Table { return l }

// example is that of the chapter.
func example() hard.Book {
	return book(3,
		tables(broken(table(0, 1, 2, 100, 200, 200, 300, 300, 500, 400, 600), 2), table(1, 2, 0, 250, 90, 350, 50)),
		machine(0, block(150, 154, 160), block(240, 246, 249)), machine(1, block(300, 300, 299)))
}

// exact is a machine that reads in a scale just what is true.
func exact(scale int) hard.Machine { return machine(scale, block(5, 5, 5)) }

// spoilt is the example with two more machines that are off.
func spoilt() hard.Book {
	b := example()
	b.Machines = append(b.Machines, machine(2, block(10, 20, 30), block(10, 20, 41)), machine(2), machine(0, block(5, 5, 5), block(9, 9, 8)))
	return b
}

type badBook struct {
	name string
	hard.Book
	e api.Errno
}

// changedBook returns the example with a change.
func changedBook(change func(b *hard.Book)) hard.Book {
	b := example()
	change(&b)
	return b
}

func longBooks() []badBook {
	var all []badBook
	bad := func(name string, change func(b *hard.Book)) {
		all = append(all, badBook{name, changedBook(change), api.ErrLimit})
		all = append(all, badBook{name + ", and no scales", changedBook(func(b *hard.Book) { change(b); b.Scales = 0 }), api.ErrLimit})
		all = append(all, badBook{name + ", and a wrong table", changedBook(func(b *hard.Book) { b.Tables[0].To = 9; change(b) }), api.ErrLimit})
		all = append(all, badBook{name + ", and a wrong machine", changedBook(func(b *hard.Book) { b.Machines[0].Scale = -1; change(b) }), api.ErrLimit})
	}
	bad("7 tables", func(b *hard.Book) { b.Tables = slices.Repeat(b.Tables[1:], 7) })
	bad("many tables", func(b *hard.Book) { b.Tables = make([]hard.Table, 100000) })
	bad("7 machines", func(b *hard.Book) { b.Machines = slices.Repeat(b.Machines[1:], 7) })
	bad("many machines", func(b *hard.Book) { b.Machines = make([]hard.Machine, 100000) })
	bad("9 rows", func(b *hard.Book) { b.Tables[1].Rows = rows(1, 1, 2, 2, 3, 3, 4, 4, 5, 5, 6, 6, 7, 7, 8, 8, 9, 9) })
	bad("many rows", func(b *hard.Book) { b.Tables[1].Rows = make([]hard.Row, 100000) })
	bad("6 blocks", func(b *hard.Book) { b.Machines[1].Blocks = slices.Repeat(b.Machines[1].Blocks, 6) })
	bad("many blocks", func(b *hard.Book) { b.Machines[1].Blocks = make([]hard.Block, 100000) })
	return all
}

func wrongBooks() []badBook {
	var all []badBook
	bad := func(name string, change func(b *hard.Book)) {
		all = append(all, badBook{name, changedBook(change), api.ErrArg})
	}
	wild := []int{-1, math.MinInt, math.MaxInt}
	for _, n := range append(wild, 0, 1, 2, 5, 6) {
		bad("wrong scales", func(b *hard.Book) { b.Scales = n })
	}
	for _, n := range append(wild, 3, 4) {
		bad("From no scale", func(b *hard.Book) { b.Tables[1].From = n })
		bad("To no scale", func(b *hard.Book) { b.Tables[1].To = n })
		bad("a machine of no scale", func(b *hard.Book) { b.Machines[1].Scale = n })
	}
	bad("From and To the same", func(b *hard.Book) { b.Tables[1].To = 1 })
	for _, n := range append(wild, 1001) {
		bad("wrong Err", func(b *hard.Book) { b.Tables[1].Err = n })
	}
	for _, l := range [][]hard.Row{
		nil, rows(250, 90), rows(250, 90, 250, 50), rows(250, 90, 249, 50), rows(250, 90, 350, 90), rows(250, 90, 350, 50, 350, 40),
		rows(250, 90, 350, 50, 450, 60), rows(250, 90, 350, 50, 450, 50), rows(250, 50, 350, 90, 450, 80), rows(250, 50, 350, 90, 450, 90), rows(1, 1, 3, 2, 2, 3), rows(1, 3, 3, 2, 2, 1),
		rows(0, 90, 350, 50), rows(250, 0, 350, 50), rows(250, 90, 350, 0), rows(250, 90, 100001, 50), rows(250, 100001, 350, 50), rows(250, 90, 350, 100001),
		rows(math.MinInt, 90, 350, 50), rows(250, 90, math.MaxInt, 50), rows(250, math.MaxInt, 350, 50), rows(250, 90, 350, math.MinInt), rows(250, math.MinInt, 350, math.MaxInt),
	} {
		bad("wrong rows", func(b *hard.Book) { b.Tables[1].Rows = l })
	}
	for _, l := range [][]int{{3}, {4}, {-1}, {math.MinInt}, {math.MaxInt}, {1, 1}, {1, 0}, {0, 2, 1}, {0, 1, 3}, {-1, 1}, make([]int, 100000)} {
		bad("wrong breaks", func(b *hard.Book) { b.Tables[0].Breaks = l })
	}
	for _, r := range []hard.Range{to(2, 1), to(-1, 5), to(5, 100001), to(math.MinInt, math.MaxInt), to(math.MaxInt, math.MinInt), to(100001, 100001), to(-5, -5)} {
		bad("a wrong Value", func(b *hard.Book) { b.Machines[0].Blocks[1].Value = r })
	}
	for _, n := range append(wild, 100001) {
		bad("wrongly read", func(b *hard.Book) { b.Machines[0].Blocks[1].Read = n })
	}
	return all
}

func badBooks() []badBook { return slices.Concat(longBooks(), wrongBooks()) }

// P6.1
func TestCheckBook(t *testing.T) {
	for _, x := range badBooks() {
		if e := hard.CheckBook(x.Book); e != x.e {
			t.Errorf("%s: %v", x.name, e)
		}
	}
	full := broken(table(3, 0, 1000, 1, 100000, 2, 99999, 3, 7, 4, 6, 5, 5, 6, 4, 99999, 2, 100000, 1), 0, 1, 2, 3, 4, 5, 6)
	for _, b := range []hard.Book{
		example(), spoilt(), book(1, nil), book(4, nil), book(1, nil, machine(0)),
		book(2, tables(table(0, 1, 0, 1, 1, 2, 2))), book(2, tables(table(1, 0, 0, 1, 2, 2, 1))), book(2, tables(broken(table(1, 0, 0, 1, 2, 2, 1), 0))),
		book(4, slices.Repeat(tables(full), 6), slices.Repeat([]hard.Machine{machine(3, slices.Repeat([]hard.Block{block(0, 100000, 100000)}, 5)...)}, 6)...),
		book(4, nil, machine(3, block(0, 0, 0), block(100000, 100000, 0))),
		changedBook(func(b *hard.Book) { b.Tables[0].Breaks = []int{} }),
	} {
		if e := hard.CheckBook(b); e != api.OK {
			t.Errorf("CheckBook of %v: %v", b, e)
		}
	}
}

// P6.1
func TestBias(t *testing.T) {
	for _, x := range []struct {
		m    hard.Machine
		want hard.Range
		e    api.Errno
	}{
		{example().Machines[0], to(6, 9), api.OK}, {example().Machines[1], to(-1, -1), api.OK},
		{machine(0, block(150, 154, 160)), to(6, 10), api.OK},
		{machine(0), to(-100000, 100000), api.OK},
		{machine(0, block(0, 100000, 0)), to(-100000, 0), api.OK}, {machine(0, block(0, 100000, 100000)), to(0, 100000), api.OK},
		{machine(0, block(0, 100000, 0), block(0, 100000, 100000)), to(0, 0), api.OK},
		{machine(0, block(0, 0, 100000)), to(100000, 100000), api.OK}, {machine(0, block(100000, 100000, 0)), to(-100000, -100000), api.OK},
		// The ends are of different blocks; the last block counts, and the one in the middle.
		{machine(0, block(10, 20, 30), block(10, 20, 32), block(10, 20, 34)), to(14, 20), api.OK}, {machine(0, block(10, 20, 30), block(10, 20, 36), block(10, 20, 34)), to(16, 20), api.OK},
		{machine(0, block(10, 20, 30), block(10, 20, 24), block(10, 20, 26)), to(10, 14), api.OK},
		{machine(0, block(10, 20, 30), block(10, 20, 40)), to(20, 20), api.OK}, {machine(0, block(10, 20, 30), block(10, 20, 41)), to(0, 0), api.ErrSpoil},
		{machine(0, block(10, 20, 30), block(10, 20, 30), block(10, 20, 30), block(10, 20, 30), block(10, 20, 19)), to(0, 0), api.ErrSpoil},
	} {
		b := book(2, nil, machine(0, block(1, 1, 2)), x.m)
		if r, e := hard.Bias(b, 1); r != x.want || e != x.e {
			t.Errorf("Bias of %v: %v, %v", x.m, r, e)
		}
		if r, e := hard.Bias(b, 0); r != to(1, 1) || e != api.OK {
			t.Errorf("Bias of the one before %v: %v, %v", x.m, r, e)
		}
	}
}

// P6.1
func TestOff(t *testing.T) {
	off, good := machine(0, block(1, 1, 1), block(1, 1, 2)), exact(0)
	for _, x := range []struct {
		b    hard.Book
		want []int
	}{
		{example(), nil}, {spoilt(), []int{2, 4}}, {book(1, nil), nil}, {book(1, nil, machine(0)), nil},
		{book(1, nil, off), []int{0}}, {book(1, nil, good, off, good, good, off), []int{1, 4}}, {book(1, nil, off, off, off, off, off, off), []int{0, 1, 2, 3, 4, 5}},
	} {
		if l, e := hard.Off(x.b); !slices.Equal(l, x.want) || e != api.OK {
			t.Errorf("Off of %v: %v, %v", x.b, l, e)
		}
	}
}

type converted struct {
	r, want hard.Range
	e       api.Errno
}

func makes(low, high, from, upTo int) converted {
	return converted{to(low, high), to(from, upTo), api.OK}
}

func fails(low, high int) converted { return converted{to(low, high), to(0, 0), api.ErrLink} }

// P6.2, P6.11
func TestConvert(t *testing.T) {
	for _, x := range []struct {
		name string
		hard.Table
		asked []converted
	}{
		{"the chapter's first table", example().Tables[0], []converted{
			makes(150, 180, 248, 282), makes(300, 300, 498, 502), fails(250, 350),
			makes(100, 100, 198, 202), makes(100, 300, 198, 502), makes(200, 200, 298, 302), makes(400, 400, 598, 602), makes(299, 300, 496, 502),
			fails(99, 99), fails(99, 150), fails(401, 401), fails(400, 401), fails(300, 301), fails(301, 301), fails(300, 400), fails(399, 399), fails(399, 400), fails(100, 400), fails(0, 100000), fails(0, 0), fails(100000, 100000),
		}},
		{"the chapter's second table", example().Tables[1], []converted{
			makes(259, 266, 83, 87), makes(250, 350, 50, 90), makes(251, 251, 89, 90), makes(255, 255, 88, 88), makes(349, 350, 50, 51), makes(250, 251, 89, 90), fails(249, 300), fails(300, 351),
		}},
		{"rows alone", broken(table(0, 1, 3, 10, 1, 20, 5, 30, 9), 0, 1), []converted{
			makes(10, 10, -2, 4), makes(20, 20, 2, 8), makes(30, 30, 6, 12), fails(10, 11), fails(15, 15), fails(10, 20), fails(19, 20), fails(20, 21), fails(29, 30), fails(9, 10), fails(30, 31),
		}},
		{"a break at the beginning", broken(table(0, 1, 0, 10, 1, 20, 5, 30, 9), 0), []converted{
			makes(10, 10, 1, 1), makes(20, 30, 5, 9), makes(21, 21, 5, 6), fails(10, 20), fails(11, 11), fails(19, 30),
		}},
		{"neighbours with a break between", broken(table(0, 1, 0, 10, 1, 11, 5, 12, 9), 0), []converted{
			makes(10, 10, 1, 1), makes(11, 11, 5, 5), makes(11, 12, 5, 9), fails(10, 11), fails(10, 12),
		}},
		{"thirds", table(0, 1, 0, 1, 10, 4, 11, 7, 15), []converted{
			makes(2, 2, 10, 11), makes(3, 3, 10, 11), makes(2, 3, 10, 11), makes(4, 4, 11, 11), makes(5, 5, 12, 13), makes(6, 6, 13, 14), makes(5, 6, 12, 14), makes(3, 5, 10, 13),
		}},
		{"thirds that fall", table(0, 1, 0, 1, 15, 4, 11, 7, 10), []converted{
			makes(2, 2, 13, 14), makes(3, 3, 12, 13), makes(2, 3, 12, 14), makes(4, 4, 11, 11), makes(5, 5, 10, 11), makes(6, 6, 10, 11), makes(3, 5, 10, 13),
		}},
		{"beyond the values", table(0, 1, 1000, 1, 1, 11, 6, 100000, 100000), []converted{
			makes(1, 1, -999, 1001), makes(2, 2, -999, 1002), makes(1, 100000, -999, 101000), makes(100000, 100000, 99000, 101000), makes(4, 4, -998, 1003),
		}},
		{"as great as there are", table(0, 1, 0, 1, 100000, 100000, 1), []converted{makes(1, 1, 100000, 100000), makes(99999, 100000, 1, 2), makes(2, 99999, 2, 99999)}},
		{"flat", table(0, 1, 0, 1, 1, 100000, 2), []converted{makes(1, 1, 1, 1), makes(2, 2, 1, 2), makes(99999, 99999, 1, 2), makes(100000, 100000, 2, 2), makes(2, 99999, 1, 2)}},
	} {
		b := example()
		b.Tables = append(b.Tables, x.Table)
		for _, y := range x.asked {
			if r, e := hard.Convert(b, 2, y.r); r != y.want || e != y.e {
				t.Errorf("%s: Convert of %v: %v, %v, not %v, %v", x.name, y.r, r, e, y.want, y.e)
			}
		}
	}
}

// P6.3, P6.4
func TestSpans(t *testing.T) {
	ring := book(2, tables(table(0, 1, 1, 1, 1, 100, 100), table(1, 0, 1, 1, 1, 100, 100)), machine(0, block(5, 15, 10)), machine(1, block(7, 7, 7)))
	chain := book(4, tables(table(2, 3, 0, 1, 11, 100, 110), table(1, 2, 0, 1, 11, 100, 110), table(0, 1, 0, 1, 11, 100, 110)), exact(0), exact(1), exact(2), exact(3))
	two := book(2, tables(table(0, 1, 2, 1, 1, 100, 100), table(0, 1, 3, 1, 6, 100, 105)), exact(0), machine(0, block(10, 20, 15)))
	narrowed := book(3, tables(broken(table(0, 1, 0, 10, 10, 20, 20, 30, 30), 1), table(2, 0, 0, 1, 1, 100, 100)), machine(0, block(0, 10, 5)), exact(2))
	low := book(2, tables(table(0, 1, 9, 1, 5, 50, 54)), exact(0))
	high := book(2, tables(table(0, 1, 9, 1, 99950, 50, 99999)), exact(0))
	for _, x := range []struct {
		name string
		b    hard.Book
		l    []hard.Reading
		want []hard.Range
	}{
		{"the chapter's example", example(), read(0, 170), []hard.Range{to(161, 164), to(259, 266), to(83, 87)}},
		{"with one more reading", example(), read(0, 170, 1, 265), []hard.Range{to(161, 164), to(266, 266), to(83, 84)}},
		{"no readings", example(), nil, []hard.Range{all(), all(), all()}},
		{"no readings, machines that are off", spoilt(), []hard.Reading{}, []hard.Range{all(), all(), all()}},
		{"another machine is off", spoilt(), read(0, 170, 1, 265), []hard.Range{to(161, 164), to(266, 266), to(83, 84)}},
		{"a machine of no blocks", spoilt(), read(3, 700, 3, 0, 3, 100000), []hard.Range{all(), all(), all()}},
		{"a single scale", book(1, nil, exact(0)), read(0, 7), []hard.Range{to(7, 7)}},
		{"a single scale, not read", book(1, nil), nil, []hard.Range{all()}},
		{"the last scale, by no table", book(4, nil, exact(3)), read(0, 7), []hard.Range{all(), all(), all(), to(7, 7)}},
		{"not against the way of a table", example(), read(1, 265), []hard.Range{all(), to(266, 266), to(83, 84)}},
		{"in the break", example(), read(0, 319), []hard.Range{to(310, 313), all(), all()}},
		{"beyond the rows", example(), read(0, 500), []hard.Range{to(491, 494), all(), all()}},
		{"one beyond the rows", example(), read(0, 108), []hard.Range{to(99, 102), all(), all()}},
		{"cut at 0", example(), read(0, 8), []hard.Range{to(0, 2), all(), all()}},
		{"0 alone", example(), read(0, 6), []hard.Range{to(0, 0), all(), all()}},
		{"cut at 100000", book(1, nil, machine(0, block(10, 20, 10))), read(0, 99995), []hard.Range{to(99995, 100000)}},
		{"the same again", example(), read(0, 170, 0, 170, 0, 170), []hard.Range{to(161, 164), to(259, 266), to(83, 87)}},
		{"two of a machine", example(), read(0, 172, 0, 170), []hard.Range{to(163, 164), to(261, 266), to(83, 86)}},
		{"a ring", ring, read(0, 40), []hard.Range{to(35, 45), to(34, 46)}},
		{"a ring, from the other scale", ring, read(1, 50), []hard.Range{to(49, 51), to(50, 50)}},
		{"a ring, from both", ring, read(0, 40, 1, 46), []hard.Range{to(45, 45), to(46, 46)}},
		{"tables against their order", chain, read(0, 5), []hard.Range{to(5, 5), to(15, 15), to(25, 25), to(35, 35)}},
		{"tables from the middle", chain, read(1, 5), []hard.Range{all(), to(5, 5), to(15, 15), to(25, 25)}},
		{"two tables of a way", two, read(0, 50), []hard.Range{to(50, 50), to(52, 52)}},
		{"two tables of a way, of a wider span", two, read(1, 50), []hard.Range{to(45, 55), to(47, 57)}},
		{"a table behind which another one converts", narrowed, read(0, 20, 1, 18), []hard.Range{to(18, 18), to(18, 18), to(18, 18)}},
		{"and does not without it", narrowed, read(0, 20), []hard.Range{to(15, 25), all(), all()}},
		{"a table makes less than 0", low, read(0, 2), []hard.Range{to(2, 2), to(0, 15)}},
		{"a table makes more than 100000", high, read(0, 45), []hard.Range{to(45, 45), to(99985, 100000)}},
	} {
		if s, e := hard.Spans(x.b, x.l); !slices.Equal(s, x.want) || e != api.OK {
			t.Errorf("%s: %v, %v", x.name, s, e)
		}
		if d, e := hard.Doubtful(x.b, x.l); len(d) > 0 || e != api.OK {
			t.Errorf("%s: doubtful %v, %v", x.name, d, e)
		}
	}
}

// P6.3, P6.4
func TestDoubtful(t *testing.T) {
	one := book(1, nil, exact(0), machine(0, block(10, 12, 11)), machine(0, block(10, 10, 60)))
	ring := book(2, tables(table(0, 1, 1, 1, 1, 100, 100), table(1, 0, 1, 1, 1, 100, 100)), machine(0, block(5, 15, 10)), machine(1, block(7, 7, 7)))
	apart := book(3, tables(table(0, 1, 0, 1, 1, 100, 100), table(2, 1, 0, 1, 51, 50, 100)), exact(0), exact(1), exact(2))
	for _, x := range []struct {
		name string
		b    hard.Book
		l    []hard.Reading
		want []int
	}{
		{"the chapter's example", example(), read(0, 170, 1, 280), []int{0}},
		{"the one against two", example(), read(1, 280, 0, 170, 0, 168), []int{0}},
		{"the last one", example(), read(0, 170, 0, 168, 1, 280), []int{2}},
		{"two of a scale", example(), read(0, 170, 0, 180, 1, 265), []int{1}},
		{"a ring", ring, read(0, 40, 1, 47), []int{0}},
		{"one in itself, below 0", one, read(2, 49), []int{0}},
		{"some in themselves", one, read(0, 3, 2, 49, 0, 3, 2, 0), []int{1, 3}},
		{"all in themselves", one, slices.Repeat(read(2, 7), 8), []int{0, 1, 2, 3, 4, 5, 6, 7}},
		{"either of two", one, read(0, 3, 0, 4), []int{0}},
		{"two against two", one, read(0, 3, 0, 4, 0, 3, 0, 4), []int{0, 2}},
		{"two against two, in another order", one, read(0, 4, 0, 3, 0, 3, 0, 4), []int{0, 3}},
		{"two against two, the others first", one, read(0, 3, 0, 3, 0, 4, 0, 4), []int{0, 1}},
		{"four against four", one, read(0, 3, 0, 4, 0, 4, 0, 3, 0, 4, 0, 3, 0, 4, 0, 3), []int{0, 3, 5, 7}},
		{"each against each", one, read(0, 1, 0, 2, 0, 3, 0, 4, 0, 5, 0, 6, 0, 7, 0, 8), []int{0, 1, 2, 3, 4, 5, 6}},
		{"the fewest, though behind", one, read(0, 3, 0, 3, 0, 4), []int{2}},
		{"no two far apart", one, read(1, 10, 1, 12, 1, 14), []int{0}},
		{"the middle one fits both", one, read(1, 10, 1, 13, 1, 12), []int{0}},
		{"in two scales", apart, read(0, 30, 1, 60, 2, 10), []int{0}},
		{"a table between them", apart, read(0, 30, 1, 30, 2, 10), []int{2}},
		{"by two tables", apart, read(0, 30, 2, 10), []int{0}},
		{"two conflicts", example(), read(0, 170, 1, 280, 0, 119, 1, 280), []int{0, 2}},
	} {
		if d, e := hard.Doubtful(x.b, x.l); !slices.Equal(d, x.want) || e != api.OK {
			t.Errorf("%s: doubtful %v, %v", x.name, d, e)
		}
		if s, e := hard.Spans(x.b, x.l); len(s) > 0 || e != api.ErrFail {
			t.Errorf("%s: %v, %v", x.name, s, e)
		}
	}
}

// P6.3, P6.4: rings that cut all spans by 1 each time round, until nothing is left, or nearly.
func TestLongRings(t *testing.T) {
	wide := machine(0, block(0, 99998, 49999))
	ending := book(4, tables(table(3, 0, 0, 1, 1, 100000, 100000), table(2, 3, 0, 1, 1, 100000, 100000), table(1, 2, 0, 1, 1, 100000, 100000), table(0, 1, 0, 1, 2, 99999, 100000)), wide)
	l := slices.Repeat(read(0, 50000), 8)
	if s, e := hard.Spans(ending, l); len(s) > 0 || e != api.ErrFail {
		t.Errorf("%v, %v", s, e)
	}
	if d, e := hard.Doubtful(ending, l); !slices.Equal(d, []int{0, 1, 2, 3, 4, 5, 6, 7}) || e != api.OK {
		t.Errorf("%v, %v", d, e)
	}
	// Behind 70000 the first table makes so little more that it is rounded off.
	staying := book(2, tables(table(0, 1, 0, 1, 2, 70000, 70001, 99999, 99999), table(1, 0, 0, 1, 1, 100000, 100000)), wide)
	if s, e := hard.Spans(staying, l); !slices.Equal(s, []hard.Range{to(70001, 99999), to(70001, 99999)}) || e != api.OK {
		t.Errorf("%v, %v", s, e)
	}
	if d, e := hard.Doubtful(staying, l); len(d) > 0 || e != api.OK {
		t.Errorf("%v, %v", d, e)
	}
}

// P6.5
func TestProveFit(t *testing.T) {
	rises := book(2, tables(table(0, 1, 1, 1, 10, 4, 11, 7, 15)))
	for _, x := range []struct {
		b      hard.Book
		l      []hard.Reading
		values []int
		want   bool
	}{
		{example(), read(0, 170), []int{162, 260, 86}, true}, {example(), read(0, 170), []int{162, 264, 84}, true}, {example(), read(0, 170), []int{162, 264, 85}, true},
		// 86 is what 260 makes; 265 is 3 off 262.
		{example(), read(0, 170), []int{162, 260, 85}, false}, {example(), read(0, 170), []int{162, 260, 87}, false}, {example(), read(0, 170), []int{162, 265, 84}, false}, {example(), read(0, 170), []int{162, 259, 87}, false},
		{example(), read(0, 170), []int{161, 260, 86}, true}, {example(), read(0, 170), []int{160, 260, 86}, false}, {example(), read(0, 170), []int{164, 264, 84}, true}, {example(), read(0, 170), []int{165, 264, 84}, false},
		{example(), read(0, 170, 1, 263), []int{162, 264, 84}, true}, {example(), read(0, 170, 1, 264), []int{162, 264, 84}, false}, {example(), read(0, 170, 0, 175), []int{162, 264, 84}, false},
		// No table has them: in a break, before and behind the rows.
		{example(), nil, []int{350, 5, 7}, true}, {example(), nil, []int{301, 249, 0}, true}, {example(), nil, []int{399, 351, 100000}, true}, {example(), nil, []int{99, 5, 7}, true}, {example(), nil, []int{401, 5, 7}, true},
		// Rows at the ends, and beside a break.
		{example(), nil, []int{100, 202, 7}, true}, {example(), nil, []int{100, 203, 7}, false}, {example(), nil, []int{300, 500, 7}, true}, {example(), nil, []int{300, 497, 7}, false}, {example(), nil, []int{400, 598, 7}, true}, {example(), nil, []int{400, 5, 7}, false},
		{example(), nil, []int{5, 250, 90}, true}, {example(), nil, []int{5, 250, 89}, false}, {example(), nil, []int{5, 350, 50}, true}, {example(), nil, []int{5, 350, 51}, false},
		// 2 makes 10 and 1 by 3, 5 makes 12 and 1 by 3.
		{rises, nil, []int{2, 9}, true}, {rises, nil, []int{2, 12}, true}, {rises, nil, []int{2, 8}, false}, {rises, nil, []int{2, 13}, false}, {rises, nil, []int{5, 11}, true}, {rises, nil, []int{5, 14}, true}, {rises, nil, []int{5, 10}, false}, {rises, nil, []int{5, 15}, false},
		{rises, nil, []int{4, 10}, true}, {rises, nil, []int{4, 12}, true}, {rises, nil, []int{4, 9}, false}, {rises, nil, []int{4, 13}, false},
		{book(1, nil), nil, []int{0}, true}, {book(1, nil), nil, []int{100000}, true},
		// A machine of no blocks allows everything; one that is off nothing, if it has a reading.
		{spoilt(), read(3, 100000, 1, 263), []int{350, 264, 84}, true}, {spoilt(), read(2, 100), []int{350, 5, 7}, false}, {spoilt(), read(1, 263, 4, 9), []int{350, 264, 84}, false},
		// Not as described.
		{example(), read(0, 170), nil, false}, {example(), read(0, 170), []int{162, 260}, false}, {example(), read(0, 170), []int{162, 260, 86, 5}, false}, {example(), read(0, 170), make([]int, 100000), false},
		{example(), nil, []int{350, 5, -1}, false}, {example(), nil, []int{350, 5, 100001}, false}, {example(), nil, []int{-1, 5, 7}, false}, {example(), nil, []int{math.MinInt, 5, math.MaxInt}, false},
		{example(), slices.Repeat(read(0, 170), 8), []int{162, 260, 86}, true}, {example(), slices.Repeat(read(0, 170), 9), []int{162, 260, 86}, false},
		{example(), read(0, 170, 2, 170), []int{162, 260, 86}, false}, {example(), read(0, 170, -1, 170), []int{162, 260, 86}, false}, {book(1, nil), read(0, 0), []int{0}, false},
		{book(1, nil, machine(0)), read(0, 0, 0, 100000), []int{7}, true}, {book(1, nil, machine(0)), read(0, -1), []int{7}, false}, {book(1, nil, machine(0)), read(0, 100001), []int{7}, false},
		{hard.Book{}, nil, nil, false},
	} {
		if is := hard.ProveFit(x.b, x.l, x.values); is != x.want {
			t.Errorf("ProveFit of %v, %v, %v: %v", x.b, x.l, x.values, is)
		}
	}
	for _, x := range badBooks() {
		if hard.ProveFit(x.Book, nil, []int{350, 5, 7}) || hard.ProveFit(x.Book, read(0, 170), []int{162, 260, 86}) {
			t.Errorf("ProveFit: %s", x.name)
		}
	}
}

// hasError holds the calls with readings against an error and zero values.
func hasError(t *testing.T, name string, b hard.Book, l []hard.Reading, want api.Errno) {
	t.Helper()
	if s, e := hard.Spans(b, l); len(s) > 0 || e != want {
		t.Errorf("%s: Spans: %v, %v", name, s, e)
	}
	if d, e := hard.Doubtful(b, l); len(d) > 0 || e != want {
		t.Errorf("%s: Doubtful: %v, %v", name, d, e)
	}
}

// R1, R2: what is wrong with the book comes before what is wrong with the rest.
func TestErrors(t *testing.T) {
	for _, x := range badBooks() {
		for _, n := range []int{0, 1, 2, 3, -1, math.MaxInt} {
			if r, e := hard.Bias(x.Book, n); r != to(0, 0) || e != x.e {
				t.Errorf("%s: Bias: %v, %v", x.name, r, e)
			}
			for _, r := range []hard.Range{to(150, 180), to(250, 350), to(2, 1), to(-1, 5)} {
				if r, e := hard.Convert(x.Book, n, r); r != to(0, 0) || e != x.e {
					t.Errorf("%s: Convert: %v, %v", x.name, r, e)
				}
			}
		}
		if l, e := hard.Off(x.Book); len(l) > 0 || e != x.e {
			t.Errorf("%s: Off: %v, %v", x.name, l, e)
		}
		for _, l := range [][]hard.Reading{nil, read(0, 170), make([]hard.Reading, 9), read(9, -1), read(0, 170, 1, 280)} {
			hasError(t, x.name, x.Book, l, x.e)
		}
	}
}

// R1, R2: the calls' own errors, behind those of the book.
func TestErrorsOfCalls(t *testing.T) {
	b := spoilt()
	for _, n := range []int{5, 6, -1, math.MinInt, math.MaxInt} {
		if r, e := hard.Bias(b, n); r != to(0, 0) || e != api.ErrRange {
			t.Errorf("Bias of %d: %v, %v", n, r, e)
		}
		for _, r := range []hard.Range{to(150, 180), to(250, 350)} {
			if r, e := hard.Convert(b, n-3, r); r != to(0, 0) || e != api.ErrRange {
				t.Errorf("Convert by %d: %v, %v", n-3, r, e)
			}
		}
		hasError(t, "no machine", b, read(0, 170, n, 5), api.ErrRange)
		hasError(t, "no machine, behind one that is off", b, read(2, 5, n, 5), api.ErrRange)
		hasError(t, "too many, and no machine", b, slices.Repeat(read(n, 5), 9), api.ErrLimit)
	}
	for _, r := range []hard.Range{to(2, 1), to(180, 150), to(-1, 150), to(150, 100001), to(math.MinInt, math.MaxInt), to(math.MaxInt, math.MinInt), to(-5, -4), to(100001, 100002)} {
		if r, e := hard.Convert(b, 0, r); r != to(0, 0) || e != api.ErrRange {
			t.Errorf("Convert of no range of values: %v, %v", r, e)
		}
	}
	for _, n := range []int{-1, 100001, math.MinInt, math.MaxInt} {
		hasError(t, "no value", b, read(0, 170, 1, n), api.ErrRange)
		hasError(t, "no value, behind a machine that is off", b, read(2, 5, 1, n), api.ErrRange)
		hasError(t, "no value, of a machine that is off", b, read(2, n), api.ErrRange)
	}
	for _, n := range []int{2, 4} {
		if r, e := hard.Bias(b, n); r != to(0, 0) || e != api.ErrSpoil {
			t.Errorf("Bias of %d: %v, %v", n, r, e)
		}
		hasError(t, "off", b, read(n, 5), api.ErrSpoil)
		hasError(t, "off, behind readings that do not fit together", b, read(0, 170, 1, 280, n, 5), api.ErrSpoil)
	}
	hasError(t, "9 readings", b, slices.Repeat(read(0, 170), 9), api.ErrLimit)
	hasError(t, "many readings", b, make([]hard.Reading, 100000), api.ErrLimit)
	hasError(t, "9 readings of a machine that is off", b, slices.Repeat(read(2, -1), 9), api.ErrLimit)
	hasError(t, "a reading, and no machines", book(1, nil), read(0, 5), api.ErrRange)
}

type answers struct {
	off, doubtful []int
	spans         []hard.Range
}

// R4, and that nothing is kept between calls.
func TestMemory(t *testing.T) {
	b, l, contrary, values := spoilt(), read(0, 170, 1, 265), read(0, 170, 1, 280, 0, 119, 1, 280), []int{162, 260, 86}
	call := func() answers {
		var x answers
		x.off, _ = hard.Off(b)
		x.doubtful, _ = hard.Doubtful(b, contrary)
		x.spans, _ = hard.Spans(b, l)
		hard.CheckBook(b)
		hard.Bias(b, 0)
		hard.Convert(b, 0, to(150, 180))
		hard.ProveFit(b, l, values)
		return x
	}
	first, second := call(), call()
	for i := range first.spans[:cap(first.spans)] {
		first.spans[:cap(first.spans)][i] = to(-7, -7)
	}
	for _, l := range [][]int{first.off, first.doubtful} {
		for i := range l[:cap(l)] {
			l[:cap(l)][i] = -7
		}
	}
	if third := call(); !reflect.DeepEqual(second, third) {
		t.Errorf("%v, behind %v", third, second)
	}
	if !reflect.DeepEqual(b, spoilt()) || !slices.Equal(l, read(0, 170, 1, 265)) || !slices.Equal(contrary, read(0, 170, 1, 280, 0, 119, 1, 280)) || !slices.Equal(values, []int{162, 260, 86}) {
		t.Errorf("written to: %v, %v, %v, %v", b, l, contrary, values)
	}
}
