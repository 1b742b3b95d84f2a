package sheet_test

import (
	"cmp"
	"math"
	"reflect"
	"slices"
	"testing"

	"tensile/api"
	"tensile/sheet"
)

func p(stretch, load int) sheet.Point { return sheet.Point{Stretch: stretch, Load: load} }

func of(number int, l ...sheet.Point) sheet.Sheet { return sheet.Sheet{Number: number, Points: l} }

func lack(number, index int) sheet.Lack { return sheet.Lack{Number: number, Card: index} }

// byNumber returns sheets in the order in which they are read.
func byNumber(l []sheet.Sheet) []sheet.Sheet {
	return slices.SortedFunc(slices.Values(l), func(x, y sheet.Sheet) int { return cmp.Compare(x.Number, y.Number) })
}

// example is the chapter's.
func example() sheet.Sheet { return of(258, p(3, 5), p(4, 4)) }

// exampleCard is the chapter's.
func exampleCard() []byte {
	return slices.Concat([]byte{1, 2, 0, 1, 2, 0, 3, 0, 0, 5, 1, 1}, make([]byte, 26), []byte{113, 16})
}

// line has points whose steps are all the same.
func line(number, points, step int) sheet.Sheet {
	s := of(number)
	for i := range points {
		s.Points = append(s.Points, p(10+2*i, 1000+step*i))
	}
	return s
}

// zigzag has points with the steps in turn.
func zigzag(number, points int, steps ...int) sheet.Sheet {
	s := of(number, p(7, 500000))
	for i := range points - 1 {
		last := s.Points[i]
		s.Points = append(s.Points, p(last.Stretch+1, last.Load+steps[i%len(steps)]))
	}
	return s
}

func fileOf(t *testing.T, l ...sheet.Sheet) []byte {
	t.Helper()
	b, e := sheet.Write(l)
	if e != api.OK {
		t.Fatalf("Write of %v: %v", l, e)
	}
	return b
}

type laying struct {
	sheet.Sheet
	want [][]byte // the beginnings of its cards; what is behind them, up to the checks, is 0
}

func layings() []laying {
	return []laying{
		{example(), [][]byte{{1, 2, 0, 1, 2, 0, 3, 0, 0, 5, 1, 1}}},
		// One point, and the ends of all numbers.
		{of(0, p(0, 0)), [][]byte{{0, 0, 0, 1, 1}}}, {of(9999, p(65535, 1000000)), [][]byte{{39, 15, 0, 1, 1, 255, 255, 15, 66, 64}}}, {of(255, p(256, 65536)), [][]byte{{0, 255, 0, 1, 1, 1, 0, 1, 0, 0}}}, {of(256, p(255, 65535)), [][]byte{{1, 0, 0, 1, 1, 0, 255, 0, 255, 255}}}, {of(1, p(65280, 256)), [][]byte{{0, 1, 0, 1, 1, 255, 0, 0, 1, 0}}},
		{of(3, p(0, 1000000), p(255, 983617), p(256, 1000000)), [][]byte{{0, 3, 0, 1, 3, 0, 0, 15, 66, 64, 255, 255, 253, 1, 255, 254}}}, {of(3, p(65280, 16383), p(65535, 0)), [][]byte{{0, 3, 0, 1, 2, 255, 0, 0, 63, 255, 255, 255, 253}}},
		// The chapter's steps.
		{of(4, p(0, 0), p(1, 63), p(2, 127), p(3, 63), p(4, 163), p(5, 16546)), [][]byte{{0, 4, 0, 1, 6, 0, 0, 0, 0, 0, 1, 126, 1, 128, 128, 1, 127, 1, 128, 200, 1, 255, 254}}},
		{of(4, p(0, 99), p(9, 99), p(10, 35), p(11, 36), p(13, 34)), [][]byte{{0, 4, 0, 1, 5, 0, 0, 0, 0, 99, 9, 0, 1, 127, 1, 2, 2, 3}}},
		{of(4, p(0, 999), p(1, 934), p(2, 1061), p(3, 1189), p(4, 1061)), [][]byte{{0, 4, 0, 1, 5, 0, 0, 0, 3, 231, 1, 128, 129, 1, 128, 254, 1, 129, 0, 1, 128, 255}}},
		// Points of two bytes fill a card with the 15th of them.
		{line(5, 15, 1), [][]byte{slices.Concat([]byte{0, 5, 0, 1, 15, 0, 10, 0, 3, 232}, slices.Repeat([]byte{2, 2}, 14))}},
		{line(5, 16, 1), [][]byte{slices.Concat([]byte{0, 5, 0, 2, 15, 0, 10, 0, 3, 232}, slices.Repeat([]byte{2, 2}, 14)), {0, 5, 1, 2, 1, 0, 40, 0, 3, 247}}},
		// Points of three bytes: one byte is left behind the 10th of them.
		{line(5, 11, 100), [][]byte{slices.Concat([]byte{0, 5, 0, 2, 10, 0, 10, 0, 3, 232}, slices.Repeat([]byte{2, 128, 200}, 9)), {0, 5, 1, 2, 1, 0, 30, 0, 7, 208}}},
	}
}

// P11.1
func TestCards(t *testing.T) {
	if c, e := sheet.Cards(example()); len(c) != 1 || !slices.Equal(c[0], exampleCard()) || e != api.OK {
		t.Errorf("Cards of the example: %v, %v", c, e)
	}
	for _, x := range layings() {
		c, e := sheet.Cards(x.Sheet)
		isSealed := func(have, want []byte) bool { return slices.Equal(have, seal(want...)) }
		if !slices.EqualFunc(c, x.want, isSealed) || e != api.OK {
			t.Errorf("Cards of %v: %v, %v", x.Sheet, c, e)
		}
	}
}

// P11.1: how many points are on each card.
func TestPointsOfCards(t *testing.T) {
	for _, x := range []struct {
		sheet.Sheet
		want []int
	}{
		{line(1, 1, 0), []int{1}}, {line(1, 10, 100), []int{10}}, {line(1, 20, 100), []int{10, 10}}, {line(1, 21, 100), []int{10, 10, 1}}, {line(1, 100, 100), slices.Repeat([]int{10}, 10)}, {line(1, 100, 1), []int{15, 15, 15, 15, 15, 15, 10}}, {line(1, 30, 63), []int{15, 15}}, {line(1, 31, 63), []int{15, 15, 1}}, {line(1, 30, 64), []int{10, 10, 10}},
		// 8 points of three bytes and 2 of two fill a card; so do 6 and 5, 4 and 8, 2 and 11.
		{zigzag(1, 11, 100, -100, 100, -100, 100, -100, 100, -100, 1, 1), []int{11}}, {zigzag(1, 12, 100, -100, 100, -100, 100, -100, 100, -100, 1, 1, 1), []int{11, 1}}, {zigzag(1, 12, 100, -100, 100, -100, 100, -100, 1, 1, 1, 1, 1), []int{12}}, {zigzag(1, 15, 100, -100, 1, 1, 1, 1, 1, 1, 1, 1, 1, 1, 1, 1), []int{14, 1}},
		// Two bytes are left, and a point of three; the one behind it would have room.
		{zigzag(1, 16, 1, 1, 1, 1, 1, 1, 1, 1, 1, 1, 1, 1, 1, 100, 1), []int{14, 2}}, {zigzag(1, 15, 1, 1, 1, 1, 1, 1, 1, 1, 1, 1, 1, 1, 1, 1), []int{15}}, {zigzag(1, 15, 1, 1, 1, 1, 1, 1, 1, 1, 1, 1, 1, 1, 1, 64), []int{14, 1}}, {zigzag(1, 15, 1, 1, 1, 1, 1, 1, 1, 1, 1, 1, 1, 1, 1, -64), []int{15}}, {zigzag(1, 15, 1, 1, 1, 1, 1, 1, 1, 1, 1, 1, 1, 1, 1, -65), []int{14, 1}},
		// A byte is left, and a point of two.
		{zigzag(1, 12, 100, 100, 100, 100, 100, 100, 100, 100, 100, 1, 1), []int{10, 2}},
	} {
		c, e := sheet.Cards(x.Sheet)
		var have []int
		for i, b := range c {
			have = append(have, int(b[4]))
			if len(b) != 40 || int(b[2]) != i || int(b[3]) != len(x.want) || b[0] != 0 || b[1] != 1 {
				t.Errorf("Cards of %v: %v", x.Sheet, b)
			}
		}
		if !slices.Equal(have, x.want) || e != api.OK {
			t.Errorf("Cards of %v: %v points, %v, not %v", x.Sheet, have, e, x.want)
		}
	}
}

// P11.1
func TestWrite(t *testing.T) {
	for _, l := range [][]sheet.Sheet{nil, {}, {example()}, {line(7, 32, 1), example(), line(3, 16, 1)}, {line(9, 1, 1), line(8, 1, 1), line(0, 2, 1), line(9999, 1, 1)}} {
		var want []byte
		for _, s := range l {
			c, _ := sheet.Cards(s)
			want = append(want, slices.Concat(c...)...)
		}
		if b := fileOf(t, l...); !slices.Equal(b, want) {
			t.Errorf("Write of %v: %v", l, b)
		}
	}
	var most []sheet.Sheet
	for number := range 10 {
		most = append(most, line(number, 100, 100))
	}
	b := fileOf(t, most...)
	if l, spoilt, e := sheet.Read(b); len(b) != 4000 || !areSheets(l, most) || spoilt != 0 || e != api.OK {
		t.Errorf("Read of the longest file, of %d bytes: %v, %d, %v", len(b), l, spoilt, e)
	}
}

type badSheet struct {
	sheet.Sheet
	e api.Errno
}

func badSheets() []badSheet {
	var all []badSheet
	bad := func(s sheet.Sheet, e api.Errno) { all = append(all, badSheet{s, e}) }
	for _, s := range []sheet.Sheet{line(1, 101, 1), line(-1, 101, 1), of(1, make(points, 101)...), of(1, make(points, 100000)...)} {
		bad(s, api.ErrLimit)
	}
	for _, number := range []int{-1, 10000, 65536, math.MinInt, math.MaxInt} {
		bad(line(number, 1, 1), api.ErrArg)
	}
	bad(of(1), api.ErrArg)
	bad(sheet.Sheet{Points: points{}}, api.ErrArg)
	bad(of(-1), api.ErrArg)
	for _, x := range []sheet.Point{p(-1, 0), p(65536, 0), p(0, -1), p(0, 1000001), p(math.MinInt, 0), p(math.MaxInt, 0), p(0, math.MinInt), p(0, math.MaxInt), p(math.MaxInt, math.MinInt)} {
		bad(of(1, x), api.ErrArg)
		bad(of(1, x, p(1, 1)), api.ErrArg)
		bad(of(1, p(0, 0), x), api.ErrArg)
		bad(of(1, p(65534, 1000000), x), api.ErrArg)
		bad(of(1, p(1, 1), x, p(2, 2)), api.ErrArg)
	}
	for _, x := range []points{
		{p(3, 0), p(3, 0)}, {p(3, 0), p(2, 0)}, {p(3, 0), p(259, 0)}, {p(3, 0), p(4, 16384)}, {p(3, 16384), p(4, 0)}, {p(0, 0), p(65535, 0)}, {p(0, 0), p(1, 1000000)}, {p(0, 1000000), p(1, 0)},
		{p(65535, 0), p(65536, 0)}, {p(1, 1000000), p(2, 1000001)}, {p(1, 0), p(2, -1)}, {p(0, 0), p(1, 0), p(1, 0)}, {p(0, 0), p(0, 0), p(1, 0)},
	} {
		bad(of(1, x...), api.ErrArg)
	}
	return all
}

// R1, R2: what is wrong with sheets.
func TestErrorsOfSheets(t *testing.T) {
	fail := func(l []sheet.Sheet, want api.Errno) {
		t.Helper()
		if b, e := sheet.Write(l); len(b) != 0 || e != want {
			t.Errorf("Write of %v: %v, %v", l, b, e)
		}
	}
	good, other := line(5, 3, 1), line(6, 3, 1)
	for _, x := range badSheets() {
		if c, e := sheet.Cards(x.Sheet); len(c) != 0 || e != x.e {
			t.Errorf("Cards of %v: %v, %v", x.Sheet, c, e)
		}
		fail([]sheet.Sheet{x.Sheet}, x.e)
		fail([]sheet.Sheet{good, x.Sheet}, x.e)
		fail([]sheet.Sheet{x.Sheet, other, good}, x.e)
		// Too many points of any sheet come before all, and what is not valid before what is there twice.
		fail([]sheet.Sheet{x.Sheet, line(7, 101, 1)}, api.ErrLimit)
		fail([]sheet.Sheet{good, good, x.Sheet}, x.e)
		fail([]sheet.Sheet{x.Sheet, x.Sheet}, x.e)
		fail(slices.Concat(slices.Repeat([]sheet.Sheet{good}, 10), []sheet.Sheet{x.Sheet}), api.ErrLimit)
	}
	for _, l := range [][]sheet.Sheet{{good, good}, {good, line(5, 4, 1)}, {good, other, good}, {other, good, good}, slices.Repeat([]sheet.Sheet{good}, 10)} {
		fail(l, api.ErrTwice)
	}
	fail(make([]sheet.Sheet, 11), api.ErrLimit)
	fail(make([]sheet.Sheet, 100000), api.ErrLimit)
	fail(make([]sheet.Sheet, 10), api.ErrArg)
	for _, s := range []sheet.Sheet{line(0, 100, 1), line(9999, 1, 1), of(1, p(65280, 0), p(65535, 16383)), of(1, p(0, 16383), p(1, 0), p(2, 16383)), of(1, p(0, 999999), p(1, 1000000), p(2, 999999))} {
		if _, e := sheet.Cards(s); e != api.OK {
			t.Errorf("Cards of %v: %v", s, e)
		}
	}
}

// goodBlocks are laid down by hand: what is just valid, or of a card that no sheet has.
func goodBlocks() [][]byte {
	full := slices.Repeat([]byte{1, 0}, 14)
	return [][]byte{
		exampleCard(), seal(0, 0, 0, 1, 1), seal(39, 15, 0, 1, 1), seal(0, 0, 19, 20, 1), seal(0, 0, 0, 20, 1), seal(0, 0, 11, 12, 1), seal(0, 0, 1, 2, 1),
		seal(0, 0, 0, 1, 1, 255, 255), seal(0, 0, 0, 1, 1, 0, 0, 15, 66, 64), seal(0, 0, 0, 1, 2, 255, 0, 0, 0, 0, 255), seal(0, 0, 0, 1, 2, 255, 254, 0, 0, 0, 1),
		seal(0, 0, 0, 1, 2, 0, 0, 0, 0, 0, 1, 255, 254), seal(0, 0, 0, 1, 2, 0, 0, 0, 63, 255, 1, 255, 253), seal(0, 0, 0, 1, 2, 0, 0, 15, 2, 65, 1, 255, 254), seal(0, 0, 0, 1, 2, 0, 0, 0, 0, 64, 1, 127), seal(0, 0, 0, 1, 2, 0, 0, 0, 0, 0, 1, 126), seal(0, 0, 0, 1, 2, 0, 0, 0, 0, 0, 1, 128, 128), seal(0, 0, 0, 1, 2, 0, 0, 0, 0, 65, 1, 128, 129),
		seal(slices.Concat([]byte{0, 0, 0, 1, 15, 0, 0, 0, 0, 0}, full)...), seal(slices.Concat([]byte{0, 0, 0, 1, 14, 0, 0, 0, 0, 0}, full[:26])...), seal(slices.Concat([]byte{0, 0, 0, 1, 10, 0, 0, 0, 0, 0}, slices.Repeat([]byte{1, 128, 128}, 9))...),
	}
}

// badBlocks are no cards, though most of them have the right checks.
func badBlocks() [][]byte {
	long := slices.Repeat([]byte{1, 128, 128}, 9)
	mixed := slices.Concat(slices.Repeat([]byte{1, 0}, 13), []byte{1, 128})
	all := [][]byte{
		make([]byte, 40), slices.Repeat([]byte{255}, 40), slices.Repeat([]byte{1}, 40),
		// The number, the index, and how many cards there are.
		seal(39, 16, 0, 1, 1), seal(40, 0, 0, 1, 1), seal(255, 255, 0, 1, 1), seal(0, 0, 1, 1, 1), seal(0, 0, 2, 1, 1), seal(0, 0, 0, 0, 1), seal(0, 0, 20, 20, 1), seal(0, 0, 0, 21, 1), seal(0, 0, 20, 21, 1), seal(0, 0, 19, 21, 1), seal(0, 0, 255, 20, 1), seal(0, 0, 0, 255, 1), seal(0, 0, 254, 255, 1), seal(0, 0, 255, 0, 1),
		// How many points there are.
		seal(0, 0, 0, 1, 0), seal(0, 0, 0, 1, 2), seal(0, 0, 0, 1, 255), seal(0, 0, 0, 1, 1, 0, 3, 0, 0, 5, 1, 1), seal(0, 0, 0, 1, 3, 0, 3, 0, 0, 5, 1, 1), seal(0, 0, 0, 1, 0, 0, 3, 0, 0, 5, 1, 1),
		// The points.
		seal(0, 0, 0, 1, 1, 0, 0, 15, 66, 65), seal(0, 0, 0, 1, 1, 0, 0, 16, 0, 0), seal(0, 0, 0, 1, 1, 0, 0, 255, 255, 255), seal(0, 0, 0, 1, 2, 0, 0, 0, 0, 0, 0, 2), seal(0, 0, 0, 1, 2, 255, 255, 0, 0, 0, 1, 0), seal(0, 0, 0, 1, 2, 255, 1, 0, 0, 0, 255, 0), seal(0, 0, 0, 1, 2, 0, 0, 0, 0, 0, 1, 1), seal(0, 0, 0, 1, 2, 0, 0, 15, 66, 64, 1, 2), seal(0, 0, 0, 1, 3, 0, 0, 0, 0, 0, 1, 1, 1, 2), seal(0, 0, 0, 1, 3, 0, 0, 15, 66, 64, 1, 2, 1, 1),
		seal(0, 0, 0, 1, 2, 0, 0, 15, 66, 65, 1, 1),
		// Steps that are too great, or would be laid down as one byte, or as less.
		seal(0, 0, 0, 1, 2, 0, 0, 1, 0, 0, 1, 255, 255), seal(0, 0, 0, 1, 2, 0, 0, 1, 0, 0, 1, 128, 0), seal(0, 0, 0, 1, 2, 0, 0, 1, 0, 0, 1, 128, 1), seal(0, 0, 0, 1, 2, 0, 0, 1, 0, 0, 1, 128, 126), seal(0, 0, 0, 1, 2, 0, 0, 1, 0, 0, 1, 128, 127),
		// Something behind the points.
		seal(0, 0, 0, 1, 1, 0, 0, 0, 0, 0, 1), seal(0, 0, 0, 1, 1, 0, 0, 0, 0, 0, 0, 1), seal(0, 0, 0, 1, 2, 0, 0, 0, 0, 0, 1, 2, 0, 0, 7), seal(0, 0, 0, 1, 2, 0, 0, 0, 0, 0, 1, 2, 7), seal(slices.Concat([]byte{0, 0, 0, 1, 1}, make([]byte, 32), []byte{1})...),
		// Points that go on behind the last byte that they may have.
		seal(slices.Concat([]byte{0, 0, 0, 1, 11, 0, 0, 0, 0, 0}, long, []byte{1})...), seal(slices.Concat([]byte{0, 0, 0, 1, 10, 0, 0, 0, 0, 0}, long, []byte{1})...), seal(slices.Concat([]byte{0, 0, 0, 1, 15, 0, 0, 0, 0, 0}, mixed)...), seal(slices.Concat([]byte{0, 0, 0, 1, 16, 0, 0, 0, 0, 0}, slices.Repeat([]byte{1, 0}, 14))...),
	}
	// A step whose second byte, and a point whose bytes would be the checks.
	for number := range 200 {
		all = append(all, seal(slices.Concat([]byte{0, byte(number), 0, 1, 15, 0, 0, 7, 161, 32}, mixed)...), seal(slices.Concat([]byte{0, byte(number), 0, 1, 16, 0, 0, 7, 161, 32}, slices.Repeat([]byte{1, 0}, 14))...))
	}
	// Checks that are not right, and bytes that they are not right for.
	for _, change := range []struct {
		at int
		by byte
	}{{38, 1}, {38, 255}, {39, 1}, {39, 255}, {38, 251}, {39, 253}, {38, 5}, {39, 3}, {1, 3}, {0, 1}, {37, 1}, {20, 1}} {
		b := exampleCard()
		b[change.at] += change.by
		all = append(all, b)
	}
	exchanged := exampleCard()
	exchanged[38], exchanged[39] = exchanged[39], exchanged[38]
	return append(all, exchanged, slices.Concat(exampleCard()[1:], []byte{0}), slices.Concat([]byte{0}, exampleCard()[:39]))
}

// P11.2
func TestBlocks(t *testing.T) {
	for _, b := range goodBlocks() {
		if _, spoilt, e := sheet.Read(b); len(b) != 40 || spoilt != 0 || e != api.OK {
			t.Errorf("Read of the card %v: %d, %v", b, spoilt, e)
		}
		if m, e := sheet.Mend([][]byte{b, b}); !slices.Equal(m, b) || e != api.OK {
			t.Errorf("Mend of the card %v: %v, %v", b, m, e)
		}
	}
	for _, b := range badBlocks() {
		l, spoilt, e := sheet.Read(b)
		lacks, f := sheet.Missing(b)
		m, g := sheet.Mend([][]byte{b})
		if len(b) != 40 || len(l) != 0 || spoilt != 1 || e != api.OK || len(lacks) != 0 || f != api.OK || len(m) != 0 || g != api.OK {
			t.Errorf("of the block %v: %v, %d, %v; %v, %v; %v, %v", b, l, spoilt, e, lacks, f, m, g)
		}
	}
	if l, spoilt, e := sheet.Read(slices.Concat(slices.Concat(badBlocks()[:150]...), exampleCard())); !areSheets(l, []sheet.Sheet{example()}) || spoilt != 150 || e != api.OK {
		t.Errorf("Read of a card behind blocks that are none: %v, %d, %v", l, spoilt, e)
	}
}

// P11.2: checks of 0, the greatest ones, and what only is as much modulo 251, or 253.
func TestChecks(t *testing.T) {
	k := counts{}
	for load := range 70000 {
		b := lay(card{number: 1, many: 1, points: points{p(0, load)}})
		if load < 3000 || b[38] == 0 || b[39] == 0 || b[38] == 250 || b[39] == 252 {
			if _, spoilt, e := sheet.Read(b); spoilt != 0 || e != api.OK {
				t.Fatalf("Read of %v: %d, %v", b, spoilt, e)
			}
		}
		if b[38] < 5 {
			b[38] += 251
			k["251"]++
		} else if b[39] < 3 {
			b[39] += 253
			k["253"]++
		} else {
			continue
		}
		if _, spoilt, e := sheet.Read(b); spoilt != 1 || e != api.OK {
			t.Fatalf("Read of %v: %d, %v", b, spoilt, e)
		}
	}
	k.areLess(t, 100, "251", "253")
}

// P11.2, P11.9: what is left behind the last whole block is spoilt, even if only a byte of 0 is cut off that would make it a card.
func TestRestOfBlocks(t *testing.T) {
	many := 0
	for load := range 2000 {
		b := lay(card{number: 1, many: 1, points: points{p(0, load)}})
		if b[39] != 0 {
			continue
		}
		many++
		if l, spoilt, e := sheet.Read(b[:39]); len(l) != 0 || spoilt != 1 || e != api.OK {
			t.Errorf("Read of %v: %v, %d, %v", b[:39], l, spoilt, e)
		}
		if l, e := sheet.Mend([][]byte{b[:39], nil}); len(l) != 0 || e != api.OK {
			t.Errorf("Mend of %v: %v, %v", b[:39], l, e)
		}
	}
	if many == 0 {
		t.Error("no card with a check of 0")
	}
	for left := range 40 {
		b := slices.Concat(exampleCard(), make([]byte, left))
		if l, spoilt, e := sheet.Read(b); !areSheets(l, []sheet.Sheet{example()}) || spoilt != min(left, 1) || e != api.OK {
			t.Errorf("Read of the example and %d bytes more: %v, %d, %v", left, l, spoilt, e)
		}
		if l, spoilt, e := sheet.Read(exampleCard()[:left]); len(l) != 0 || spoilt != min(left, 1) || e != api.OK {
			t.Errorf("Read of %d bytes of the example: %v, %d, %v", left, l, spoilt, e)
		}
	}
}

type reading struct {
	name   string
	b      []byte
	whole  []sheet.Sheet
	spoilt int
	lacks  []sheet.Lack
}

// threeSheets are of two cards, one, and three.
func threeSheets() []sheet.Sheet {
	return []sheet.Sheet{line(7, 30, 1), example(), line(3, 25, 100)}
}

func readings(t *testing.T) []reading {
	t.Helper()
	l := threeSheets()
	b := fileOf(t, l...)
	if len(b) != 240 {
		t.Fatalf("Write of %v: %v", l, b)
	}
	all := byNumber(l)
	changed := func(at int, by byte) []byte {
		out := slices.Clone(b)
		out[at] += by
		return out
	}
	block := func(i int) []byte { return b[40*i : 40*i+40] }
	return []reading{
		{"nothing", nil, nil, 0, nil}, {"no bytes", []byte{}, nil, 0, nil}, {"a file", b, all, 0, nil}, {"a byte", []byte{7}, nil, 1, nil}, {"a byte of 0", []byte{0}, nil, 1, nil},
		{"the example", exampleCard(), l[1:2], 0, nil}, {"the example with 3 for the byte 1", slices.Concat([]byte{1, 3}, exampleCard()[2:]), nil, 1, nil}, {"the example and 5 bytes more", append(exampleCard(), 1, 2, 0, 1, 2), l[1:2], 1, nil},
		{"another order", slices.Concat(block(5), block(1), block(2), block(4), block(0), block(3)), all, 0, nil}, {"twice", slices.Concat(b, b), all, 0, nil}, {"a spoilt block twice", slices.Concat(changed(121, 1)[120:160], b, changed(121, 1)[120:160]), all, 2, nil},
		{"bytes in front", slices.Concat([]byte{0}, b), nil, 7, nil}, {"39 bytes in front", slices.Concat(make([]byte, 39), b), nil, 7, nil}, {"a block of nothing in front", slices.Concat(make([]byte, 40), b), all, 1, nil},
		{"a first card spoilt", changed(0, 1), []sheet.Sheet{all[0], all[2]}, 1, []sheet.Lack{lack(7, 0)}}, {"a second card spoilt", changed(79, 1), []sheet.Sheet{all[0], all[2]}, 1, []sheet.Lack{lack(7, 1)}}, {"an only card spoilt", changed(100, 1), all[:2], 1, nil}, {"a middle card spoilt", changed(165, 9), all[1:], 1, []sheet.Lack{lack(3, 1)}},
		{"one card of each", slices.Concat(block(1), block(4)), nil, 0, []sheet.Lack{lack(3, 0), lack(3, 2), lack(7, 0)}}, {"the last card of three", block(5), nil, 0, []sheet.Lack{lack(3, 0), lack(3, 1)}}, {"the first one of three", block(3), nil, 0, []sheet.Lack{lack(3, 1), lack(3, 2)}},
		{"spoilt ones alone", make([]byte, 85), nil, 3, nil}, {"a card of twenty", seal(0, 9, 18, 20, 1), nil, 0, lacksBut(9, 20, 18)}, {"two cards of twenty", slices.Concat(seal(0, 9, 18, 20, 1), seal(0, 9, 0, 20, 1)), nil, 0, lacksBut(9, 20, 18, 0)},
	}
}

// lacksBut returns all cards of a number but some.
func lacksBut(number, many int, but ...int) []sheet.Lack {
	var all []sheet.Lack
	for index := range many {
		if !slices.Contains(but, index) {
			all = append(all, lack(number, index))
		}
	}
	return all
}

// P11.2, P11.3
func TestReadAndMissing(t *testing.T) {
	for _, x := range readings(t) {
		l, spoilt, e := sheet.Read(x.b)
		if !areSheets(l, x.whole) || spoilt != x.spoilt || e != api.OK {
			t.Errorf("%s: Read: %v, %d, %v", x.name, l, spoilt, e)
		}
		if lacks, e := sheet.Missing(x.b); !slices.Equal(lacks, x.lacks) || e != api.OK {
			t.Errorf("%s: Missing: %v, %v", x.name, lacks, e)
		}
	}
}

type loose struct {
	name  string
	cards []card
	whole bool
	piece []int // how many points each piece has
}

// looseCards are of one number; all are there, but where it is said.
func looseCards() []loose {
	l := line(4, 40, 1).Points
	far := line(4, 40, 100).Points
	twenty := func(points points, each int) []card {
		var all []card
		for i := range 20 {
			all = append(all, card{4, i, 20, points[i*each : i*each+each]})
		}
		return all
	}
	var steep points
	for i := range 300 {
		steep = append(steep, p(i, i))
	}
	return []loose{
		{"as they are dealt", []card{{4, 0, 2, l[:15]}, {4, 1, 2, l[15:20]}}, true, []int{20}},
		{"a first card with room", []card{{4, 0, 2, l[:14]}, {4, 1, 2, l[14:20]}}, false, []int{20}},
		{"two cards with room", []card{{4, 0, 2, l[:1]}, {4, 1, 2, l[1:2]}}, false, []int{2}},
		{"a last card that has room on the one before it", []card{{4, 0, 3, l[:15]}, {4, 1, 3, l[15:20]}, {4, 2, 3, l[20:21]}}, false, []int{21}},
		{"points that do not follow one another", []card{{4, 0, 2, l[:15]}, {4, 1, 2, l[14:20]}}, false, []int{21}},
		{"the same points", []card{{4, 0, 2, l[:15]}, {4, 1, 2, l[:15]}}, false, []int{30}},
		{"a point too far away", []card{{4, 0, 2, l[:15]}, {4, 1, 2, points{p(38+256, 1014)}}}, false, []int{16}},
		{"a point as far away as can be", []card{{4, 0, 2, l[:15]}, {4, 1, 2, points{p(38+255, 1014+16383)}}}, true, []int{16}},
		{"a point too high", []card{{4, 0, 2, l[:15]}, {4, 1, 2, points{p(39, 1014+16384)}}}, false, []int{16}},
		{"a card full of steps of two bytes", []card{{4, 0, 2, far[:10]}, {4, 1, 2, far[10:20]}}, true, []int{20}},
		{"twenty cards", twenty(l, 2), false, []int{40}}, {"twenty cards of a point each", twenty(l, 1), false, []int{20}}, {"twenty full cards", twenty(steep, 15), false, []int{300}},
		{"a card between lacks", []card{{4, 0, 3, l[:15]}, {4, 2, 3, l[30:40]}}, false, []int{15, 10}},
		{"the first card lacks", []card{{4, 1, 3, l[15:30]}, {4, 2, 3, l[30:40]}}, false, []int{25}},
		{"the last card lacks", []card{{4, 0, 3, l[:15]}, {4, 1, 3, l[15:30]}}, false, []int{30}},
		{"the last card lacks that a sheet of the others would not have", []card{{4, 0, 3, l[:15]}, {4, 1, 3, l[15:16]}}, false, []int{16}},
		{"the first card lacks, and the others are dealt as if they were all", []card{{4, 1, 2, l[:15]}}, false, []int{15}},
		{"each second card", []card{{4, 5, 6, l[:1]}, {4, 1, 6, l[4:7]}, {4, 3, 6, l[2:4]}}, false, []int{3, 2, 1}},
		{"in another order", []card{{4, 2, 3, l[30:40]}, {4, 0, 3, l[:15]}, {4, 1, 3, l[15:30]}}, true, []int{40}},
		{"two and two", []card{{4, 19, 20, l[:1]}, {4, 6, 20, l[4:7]}, {4, 18, 20, l[2:4]}, {4, 7, 20, l[7:20]}}, false, []int{16, 3}},
	}
}

// P11.2, P11.3: a sheet is whole if its own cards are there; the pieces need not be a sheet.
func TestLooseCardsOfANumber(t *testing.T) {
	for _, x := range looseCards() {
		b := slices.Concat(fileOf(t, line(3, 1, 1)), layAll(x.cards), fileOf(t, line(5, 31, 1)))
		l, spoilt, e := sheet.Read(b)
		isWhole := len(l) == 3 && l[1].Number == 4
		if isWhole != x.whole || len(l) < 2 || spoilt != 0 || e != api.OK {
			t.Errorf("%s: Read: %v, %d, %v", x.name, l, spoilt, e)
		}
		pieces, e := sheet.Pieces(b, 4)
		var sizes []int
		for _, piece := range pieces {
			sizes = append(sizes, len(piece))
		}
		if !slices.Equal(sizes, x.piece) || !arePieces(pieces, heapOf(b).pieces(4)) || e != api.OK {
			t.Errorf("%s: Pieces: %v, %v", x.name, pieces, e)
		}
	}
}

// P11.3
func TestPieces(t *testing.T) {
	l := threeSheets()
	b := fileOf(t, l...)
	for _, x := range []struct {
		b      []byte
		number int
		want   []points
		e      api.Errno
	}{
		{b, 7, []points{l[0].Points}, api.OK}, {b, 258, []points{l[1].Points}, api.OK}, {b, 3, []points{l[2].Points}, api.OK},
		{b[:160], 3, []points{l[2].Points[:10]}, api.OK}, {b[160:], 3, []points{l[2].Points[10:]}, api.OK}, {slices.Concat(b[200:], b[120:160]), 3, []points{l[2].Points[:10], l[2].Points[20:]}, api.OK}, {slices.Concat(b[200:], b[160:]), 3, []points{l[2].Points[10:]}, api.OK}, {slices.Concat(b, b, make([]byte, 50)), 7, []points{l[0].Points}, api.OK},
		{b, 0, nil, api.ErrNone}, {b, 8, nil, api.ErrNone}, {b, 9999, nil, api.ErrNone}, {nil, 0, nil, api.ErrNone}, {b[1:], 7, nil, api.ErrNone}, {make([]byte, 8000), 0, nil, api.ErrNone},
		{b, -1, nil, api.ErrRange}, {b, 10000, nil, api.ErrRange}, {nil, -1, nil, api.ErrRange}, {nil, 10000, nil, api.ErrRange}, {b, math.MinInt, nil, api.ErrRange}, {b, math.MaxInt, nil, api.ErrRange}, {seal(39, 16, 0, 1, 1), 10000, nil, api.ErrRange},
		{fileOf(t, of(0, p(1, 2)), of(9999, p(3, 4))), 0, []points{{p(1, 2)}}, api.OK}, {fileOf(t, of(0, p(1, 2)), of(9999, p(3, 4))), 9999, []points{{p(3, 4)}}, api.OK},
	} {
		if pieces, e := sheet.Pieces(x.b, x.number); !arePieces(pieces, x.want) || e != x.e {
			t.Errorf("Pieces of %v, %d: %v, %v", x.b, x.number, pieces, e)
		}
	}
}

// P11.4
func TestMend(t *testing.T) {
	l := byNumber(threeSheets())
	b := fileOf(t, l...)
	spoil := func(blocks ...int) []byte {
		out := slices.Clone(b)
		for _, i := range blocks {
			out[40*i+i]++
		}
		return out
	}
	for _, x := range []struct {
		name  string
		files [][]byte
		want  []byte
	}{
		{"no files", nil, nil}, {"no files", [][]byte{}, nil}, {"nothing", [][]byte{nil}, nil}, {"five of nothing", make([][]byte, 5), nil}, {"spoilt ones alone", [][]byte{{1, 2, 3}, make([]byte, 80), nil}, nil},
		{"a file", [][]byte{b}, b}, {"a file five times", [][]byte{b, b, b, b, b}, b}, {"the numbers fall", [][]byte{fileOf(t, l[2], l[1], l[0])}, b}, {"a file for each", [][]byte{fileOf(t, l[1]), fileOf(t, l[2]), fileOf(t, l[0])}, b},
		{"spoilt in turn", [][]byte{spoil(0, 2, 4), spoil(1, 3, 5)}, b}, {"all but one spoilt", [][]byte{spoil(1, 2, 3, 4, 5), spoil(0, 1, 2, 3, 4), spoil(0, 2, 3, 4, 5), spoil(0, 1, 4, 5), spoil(0, 1, 2, 3, 5)}, b}, {"a card spoilt in all", [][]byte{spoil(3, 1), spoil(3), spoil(2, 3)}, slices.Concat(b[:120], b[160:])},
		{"cut off", [][]byte{b[:130], b[120:]}, b}, {"cut off within a block", [][]byte{b[:130], b[130:]}, b[:120]}, {"blocks that go on in the next file", [][]byte{b[:20], b[20:]}, nil}, {"a block in two files", [][]byte{exampleCard()[:20], exampleCard()[20:]}, nil},
		{"twice", [][]byte{slices.Concat(b, b[40:80], make([]byte, 40)), b[40:80]}, b}, {"cards of no sheet", [][]byte{seal(0, 9, 18, 20, 1), slices.Concat(seal(0, 8, 0, 2, 1), seal(0, 9, 3, 20, 1))}, slices.Concat(seal(0, 8, 0, 2, 1), seal(0, 9, 3, 20, 1), seal(0, 9, 18, 20, 1))},
	} {
		if m, e := sheet.Mend(x.files); !slices.Equal(m, x.want) || e != api.OK {
			t.Errorf("%s: Mend: %v, %v", x.name, m, e)
		}
	}
}

// singles returns cards with numbers of their own, from one on.
func singles(from, many int) []byte {
	var b []byte
	for i := range many {
		b = append(b, lay(card{from + i, 0, 1, points{p(0, i)}})...)
	}
	return b
}

// P11.4: how many bytes there may be.
func TestMostBytes(t *testing.T) {
	full := singles(0, 200)
	for _, x := range []struct {
		name  string
		files [][]byte
		want  []byte
		e     api.Errno
	}{
		{"200 cards", [][]byte{full}, full, api.OK}, {"200 cards five times", [][]byte{full, full, full, full, full}, full, api.OK}, {"200 cards of five files", [][]byte{full[:80], full[80:4000], full[3960:], nil, full[:400]}, full, api.OK}, {"199 cards, and one", [][]byte{full[40:], full[:40]}, full, api.OK}, {"spoilt ones as well", [][]byte{full, make([]byte, 8000)}, full, api.OK},
		{"a card too many", [][]byte{full, singles(9999, 1)}, nil, api.ErrLimit}, {"201 cards", [][]byte{singles(0, 101), singles(101, 100)}, nil, api.ErrLimit}, {"1000 cards", [][]byte{full, singles(200, 200), singles(400, 200), singles(600, 200), singles(800, 200)}, nil, api.ErrLimit},
		{"a byte too many", [][]byte{append(slices.Clone(full), 0)}, nil, api.ErrLimit}, {"a byte too many of the last one", [][]byte{nil, nil, nil, nil, make([]byte, 8001)}, nil, api.ErrLimit}, {"six files", make([][]byte, 6), nil, api.ErrLimit}, {"many files", make([][]byte, 100000), nil, api.ErrLimit},
	} {
		if m, e := sheet.Mend(x.files); !slices.Equal(m, x.want) || e != x.e {
			t.Errorf("%s: Mend: %v, %v", x.name, m, e)
		}
	}
	if l, spoilt, e := sheet.Read(full); len(l) != 200 || spoilt != 0 || e != api.OK {
		t.Errorf("Read of 200 cards: %v, %d, %v", l, spoilt, e)
	}
	if lacks, e := sheet.Missing(full); len(lacks) != 0 || e != api.OK {
		t.Errorf("Missing of 200 cards: %v, %v", lacks, e)
	}
	if pieces, e := sheet.Pieces(full, 199); !arePieces(pieces, []points{{p(0, 199)}}) || e != api.OK {
		t.Errorf("Pieces of 200 cards: %v, %v", pieces, e)
	}
}

// isRefused asks all calls with bytes.
func isRefused(t *testing.T, name string, b []byte, numbers []int, want api.Errno) {
	t.Helper()
	if l, spoilt, e := sheet.Read(b); len(l) != 0 || spoilt != 0 || e != want {
		t.Errorf("%s: Read: %v, %d, %v", name, l, spoilt, e)
	}
	if lacks, e := sheet.Missing(b); len(lacks) != 0 || e != want {
		t.Errorf("%s: Missing: %v, %v", name, lacks, e)
	}
	for _, number := range numbers {
		if pieces, e := sheet.Pieces(b, number); len(pieces) != 0 || e != want {
			t.Errorf("%s: Pieces of %d: %v, %v", name, number, pieces, e)
		}
	}
	if m, e := sheet.Mend([][]byte{b}); len(m) != 0 || e != want {
		t.Errorf("%s: Mend: %v, %v", name, m, e)
	}
}

// R1, R2: too many bytes come before all; then cards that contradict each other; then the number.
func TestErrorsOfBytes(t *testing.T) {
	l := line(7, 32, 1)
	b := fileOf(t, l)
	numbers := []int{7, 8, 0, 9999, -1, 10000, math.MinInt, math.MaxInt}
	for name, x := range map[string][]byte{
		"other points at the end":    slices.Concat(b, fileOf(t, example()), lay(card{7, 2, 3, l.Points[29:]})),
		"another first load":         slices.Concat(b, lay(card{7, 0, 3, points{p(10, 1001)}})),
		"fewer points":               slices.Concat(b, lay(card{7, 0, 3, l.Points[:14]})),
		"fewer cards":                slices.Concat(b, lay(card{7, 0, 2, l.Points[:15]})),
		"fewer cards, another one":   slices.Concat(b[40:], lay(card{7, 0, 2, l.Points[:15]})),
		"more cards":                 slices.Concat(b[:80], lay(card{7, 3, 4, l.Points[30:]})),
		"more cards, far behind":     slices.Concat(lay(card{7, 19, 20, l.Points[30:]}), make([]byte, 4000), singles(100, 3), b[80:]),
		"just two cards":             slices.Concat(seal(0, 0, 0, 1, 1), seal(0, 0, 0, 1, 1, 0, 0, 0, 0, 1)),
		"just two cards of two":      slices.Concat(seal(0, 0, 0, 1, 1), seal(0, 0, 1, 2, 1)),
		"with something behind them": slices.Concat(seal(0, 0, 1, 2, 1), seal(0, 0, 0, 3, 1), []byte{1, 2, 3}),
	} {
		isRefused(t, name, x, numbers, api.ErrTwice)
		for at := 0; at <= len(x); at += 40 {
			if m, e := sheet.Mend([][]byte{x[:at], x[at:]}); len(m) != 0 || e != api.ErrTwice {
				t.Errorf("%s: Mend of two files: %v, %v", name, m, e)
			}
		}
		isRefused(t, name+", and too many bytes", slices.Concat(x, make([]byte, 8001-len(x))), numbers, api.ErrLimit)
		if m, e := sheet.Mend([][]byte{x, make([]byte, 8001)}); len(m) != 0 || e != api.ErrLimit {
			t.Errorf("%s: Mend with a file that is too long: %v, %v", name, m, e)
		}
		if m, e := sheet.Mend([][]byte{x, nil, nil, nil, nil, nil}); len(m) != 0 || e != api.ErrLimit {
			t.Errorf("%s: Mend of six files: %v, %v", name, m, e)
		}
		// What contradicts itself comes before too many cards.
		if m, e := sheet.Mend([][]byte{singles(1000, 200), singles(2000, 200), x}); len(m) != 0 || e != api.ErrTwice {
			t.Errorf("%s: Mend of too many cards: %v, %v", name, m, e)
		}
	}
	isRefused(t, "8001 bytes", make([]byte, 8001), numbers, api.ErrLimit)
	isRefused(t, "many bytes", make([]byte, 1000000), numbers, api.ErrLimit)
	// What is spoilt contradicts nothing.
	wrong := lay(card{7, 0, 2, l.Points[:15]})
	wrong[39]++
	if x, spoilt, e := sheet.Read(slices.Concat(b, wrong)); !areSheets(x, []sheet.Sheet{l}) || spoilt != 1 || e != api.OK {
		t.Errorf("Read of a spoilt card: %v, %d, %v", x, spoilt, e)
	}
}

// overwrite writes to all of a list, and to what is behind it.
func overwrite[T any](list []T, with T) {
	list = list[:cap(list)]
	for i := range list {
		list[i] = with
	}
}

// isAlone writes to each list in turn, and holds the others against what they were.
func isAlone[T any](t *testing.T, name string, lists [][]T, with T) {
	t.Helper()
	for i := range lists {
		others := slices.Clone(lists)
		for j := range others {
			others[j] = slices.Clone(others[j])
		}
		overwrite(lists[i], with)
		others[i] = lists[i]
		if !reflect.DeepEqual(lists, others) {
			t.Errorf("%s: the list %d: %v, not %v", name, i, lists, others)
		}
	}
}

// R4
func TestMemory(t *testing.T) {
	l := threeSheets()
	b := fileOf(t, l...)
	if !reflect.DeepEqual(l, threeSheets()) {
		t.Fatalf("Write wrote to its sheets: %v", l)
	}
	was := slices.Clone(b)
	cards, _ := sheet.Cards(l[2])
	isAlone(t, "Cards", cards, 77)
	whole, _, _ := sheet.Read(b)
	isAlone(t, "Read", []points{whole[0].Points, whole[1].Points, whole[2].Points}, p(77, 77))
	overwrite(whole, of(77))
	lacks, _ := sheet.Missing(b[160:])
	overwrite(lacks, lack(77, 77))
	parted := slices.Concat(b[120:160], b[200:])
	pieces, e := sheet.Pieces(parted, 3)
	if len(pieces) != 2 || e != api.OK {
		t.Fatalf("Pieces: %v, %v", pieces, e)
	}
	isAlone(t, "Pieces", pieces, p(77, 77))
	files := [][]byte{b[:120:120], b[40:]}
	mended, _ := sheet.Mend(files)
	overwrite(mended, 77)
	if !slices.Equal(b, was) || !reflect.DeepEqual(l, threeSheets()) || !reflect.DeepEqual(files, [][]byte{was[:120], was[40:]}) || !slices.Equal(parted, slices.Concat(was[120:160], was[200:])) {
		t.Errorf("written to: %v, %v", b, l)
	}
}

// R4, and that nothing is kept between calls.
func TestNothingIsKept(t *testing.T) {
	l := threeSheets()
	b := fileOf(t, l...)
	for range 2 {
		whole, spoilt, _ := sheet.Read(b[:200])
		lacks, _ := sheet.Missing(b[:200])
		pieces, _ := sheet.Pieces(b[:200], 3)
		mended, _ := sheet.Mend([][]byte{b[200:], b[160:200]})
		if len(whole) != 2 || spoilt != 0 || !slices.Equal(lacks, []sheet.Lack{lack(3, 2)}) || len(pieces) != 1 || !slices.Equal(mended, b[160:]) {
			t.Errorf("%v, %d; %v; %v; %v", whole, spoilt, lacks, pieces, mended)
		}
		sheet.Write([]sheet.Sheet{line(3, 5, 1)})
		sheet.Read(fileOf(t, line(7, 5, 1)))
		sheet.Read(make([]byte, 85))
	}
}
