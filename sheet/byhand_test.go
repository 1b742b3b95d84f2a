package sheet_test

import (
	"fmt"
	"maps"
	"math/rand/v2"
	"slices"
	"testing"

	"tensile/api"
	"tensile/sheet"
)

// The functions of this file say word for word what the chapter's definitions do.

type points = []sheet.Point

// card is one that is laid down, or could be.
type card struct {
	number, index, many int
	points
}

func isPoint(x sheet.Point) bool {
	return x.Stretch >= 0 && x.Stretch <= 65535 && x.Load >= 0 && x.Load <= 1000000
}

func follows(x, before sheet.Point) bool {
	further, step := x.Stretch-before.Stretch, x.Load-before.Load
	return further >= 1 && further <= 255 && step <= 16383 && step >= -16383
}

// areOrdered tells whether points follow one another as those of a sheet do.
func areOrdered(l points) bool {
	for i, x := range l {
		if !isPoint(x) || i > 0 && !follows(x, l[i-1]) {
			return false
		}
	}
	return len(l) > 0
}

func isSheet(s sheet.Sheet) bool {
	return s.Number >= 0 && s.Number <= 9999 && len(s.Points) <= 100 && areOrdered(s.Points)
}

func isCard(c card) bool {
	return c.number >= 0 && c.number <= 9999 && c.many >= 1 && c.many <= 20 && c.index >= 0 && c.index < c.many && areOrdered(c.points)
}

// stepByHand returns the bytes of a step.
func stepByHand(d int) []byte {
	folded := 2 * d
	if d < 0 {
		folded = 2*(-d) - 1
	}
	if folded < 128 {
		return []byte{byte(folded)}
	}
	return []byte{byte(128 + folded/256), byte(folded % 256)}
}

// seal returns the 40 bytes that begin with some, and have the right checks.
func seal(bytes ...byte) []byte {
	out := make([]byte, 40)
	copy(out[:38], bytes)
	weighted, plain := 0, 0
	for i := 0; i <= 37; i++ {
		weighted += (i + 1) * int(out[i])
		plain += int(out[i])
	}
	out[38], out[39] = byte(weighted%251), byte(plain%253)
	return out
}

// body returns the bytes of a card up to its last point, however many these are.
func body(c card) []byte {
	first := c.points[0]
	out := []byte{
		byte(c.number / 256), byte(c.number % 256), byte(c.index), byte(c.many), byte(len(c.points)),
		byte(first.Stretch / 256), byte(first.Stretch % 256), byte(first.Load / 65536), byte(first.Load % 65536 / 256), byte(first.Load % 256),
	}
	for i, x := range c.points[1:] {
		out = append(out, byte(x.Stretch-c.points[i].Stretch))
		out = append(out, stepByHand(x.Load-c.points[i].Load)...)
	}
	return out
}

func hasRoom(c card) bool { return len(body(c)) <= 38 }

func lay(c card) []byte { return seal(body(c)...) }

func layAll(l []card) []byte {
	var out []byte
	for _, c := range l {
		out = append(out, lay(c)...)
	}
	return out
}

// cardsOf returns the cards of a sheet: on each of them the longest beginning of what is left that has room.
func cardsOf(s sheet.Sheet) []card {
	var all []card
	for rest := s.Points; len(rest) > 0; {
		n := len(rest)
		for !hasRoom(card{points: rest[:n]}) {
			n--
		}
		all = append(all, card{number: s.Number, index: len(all), points: rest[:n]})
		rest = rest[n:]
	}
	for i := range all {
		all[i].many = len(all)
	}
	return all
}

// stepAt returns the step that begins at a byte, if one does, and the byte behind it.
func stepAt(b []byte, at int) (step, behind int, is bool) {
	if at > 37 || b[at] >= 128 && at == 37 {
		return 0, 0, false
	}
	folded, behind := int(b[at]), at+1
	if b[at] >= 128 {
		folded, behind = 256*int(b[at]-128)+int(b[at+1]), at+2
		if folded < 128 {
			return 0, 0, false
		}
	}
	if folded%2 == 0 {
		return folded / 2, behind, true
	}
	return -(folded + 1) / 2, behind, true
}

// cardOf returns the card that a block is, if it is one.
func cardOf(b []byte) (card, bool) {
	c := card{number: 256*int(b[0]) + int(b[1]), index: int(b[2]), many: int(b[3])}
	x := sheet.Point{Stretch: 256*int(b[5]) + int(b[6]), Load: 65536*int(b[7]) + 256*int(b[8]) + int(b[9])}
	at := 10
	for i := range int(b[4]) {
		if i > 0 {
			step, behind, is := stepAt(b, at+1)
			if !is {
				return card{}, false
			}
			x = sheet.Point{Stretch: x.Stretch + int(b[at]), Load: x.Load + step}
			at = behind
		}
		c.points = append(c.points, x)
	}
	for _, left := range b[at:38] {
		if left != 0 {
			return card{}, false
		}
	}
	checks := seal(b[:38]...)
	return c, isCard(c) && b[38] == checks[38] && b[39] == checks[39]
}

// heap has what there is in some bytes, or files.
type heap struct {
	cards  []card // each once
	spoilt int
	twice  bool // some contradict each other
}

func areSame(c, other card) bool {
	return c.number == other.number && c.index == other.index && c.many == other.many && slices.Equal(c.points, other.points)
}

func contradict(c, other card) bool {
	return !areSame(c, other) && c.number == other.number && (c.index == other.index || c.many != other.many)
}

func (h *heap) add(c card) {
	for _, other := range h.cards {
		if areSame(c, other) {
			return
		}
		if contradict(c, other) {
			h.twice = true
		}
	}
	h.cards = append(h.cards, c)
}

func heapOf(files ...[]byte) heap {
	var h heap
	for _, file := range files {
		for len(file) >= 40 {
			if c, is := cardOf(file[:40]); is {
				h.add(c)
			} else {
				h.spoilt++
			}
			file = file[40:]
		}
		if len(file) > 0 {
			h.spoilt++
		}
	}
	return h
}

func (h heap) numbers() []int {
	all := map[int]bool{}
	for _, c := range h.cards {
		all[c.number] = true
	}
	return slices.Sorted(maps.Keys(all))
}

// of returns the cards of a number, by rising index.
func (h heap) of(number int) []card {
	var all []card
	for index := range 20 {
		for _, c := range h.cards {
			if c.number == number && c.index == index {
				all = append(all, c)
			}
		}
	}
	return all
}

func (h heap) has(number, index int) bool {
	return slices.ContainsFunc(h.of(number), func(c card) bool { return c.index == index })
}

// whole returns the sheets all of whose cards are there.
func (h heap) whole() []sheet.Sheet {
	var all []sheet.Sheet
	for _, number := range h.numbers() {
		s := sheet.Sheet{Number: number}
		for _, c := range h.of(number) {
			s.Points = append(s.Points, c.points...)
		}
		isThere := func(c card) bool {
			return slices.ContainsFunc(h.cards, func(other card) bool { return areSame(c, other) })
		}
		if isSheet(s) && !slices.ContainsFunc(cardsOf(s), func(c card) bool { return !isThere(c) }) {
			all = append(all, s)
		}
	}
	return all
}

func (h heap) lacks() []sheet.Lack {
	var all []sheet.Lack
	for _, number := range h.numbers() {
		for index := range 20 {
			isMore := func(c card) bool { return c.number == number && c.many > index }
			if !h.has(number, index) && slices.ContainsFunc(h.cards, isMore) {
				all = append(all, sheet.Lack{Number: number, Card: index})
			}
		}
	}
	return all
}

func (h heap) pieces(number int) []points {
	var all []points
	for _, c := range h.of(number) {
		if h.has(number, c.index-1) {
			all[len(all)-1] = append(all[len(all)-1], c.points...)
		} else {
			all = append(all, slices.Clone(c.points))
		}
	}
	return all
}

// mended returns all cards that are there, in their order.
func (h heap) mended() []byte {
	var all []card
	for _, number := range h.numbers() {
		all = append(all, h.of(number)...)
	}
	return layAll(all)
}

func areSheets(l, other []sheet.Sheet) bool {
	return slices.EqualFunc(l, other, func(x, y sheet.Sheet) bool { return x.Number == y.Number && slices.Equal(x.Points, y.Points) })
}

func arePieces(l, other []points) bool {
	return slices.EqualFunc(l, other, func(x, y points) bool { return slices.Equal(x, y) })
}

func between(dice *rand.Rand, low, high int) int { return low + dice.IntN(high-low+1) }

// randomPoints returns some that follow one another; steps are short, long or of any length.
func randomPoints(dice *rand.Rand, number int) points {
	reach := []int{10, 63, 64, 70, 128, 300, 16383}[dice.IntN(7)]
	x := sheet.Point{Stretch: dice.IntN(65536 - 255*number), Load: dice.IntN(1000001)}
	switch dice.IntN(6) {
	case 0:
		x.Load = dice.IntN(100)
	case 1:
		x.Load = 1000000 - dice.IntN(100)
	}
	l := points{x}
	for len(l) < number {
		step := between(dice, -reach, reach)
		if dice.IntN(20) == 0 {
			step = []int{-16383, 16383, -64, 64, 63, -65, 127, 128, -128}[dice.IntN(9)]
		}
		x.Stretch += []int{1, 255, between(dice, 1, 255), 3}[dice.IntN(4)]
		x.Load = max(0, min(1000000, x.Load+step))
		l = append(l, x)
	}
	return l
}

func randomSheet(dice *rand.Rand, number int) sheet.Sheet {
	most := []int{1, 2, 11, 12, 15, 16, 30, 40, 100}[dice.IntN(9)]
	return sheet.Sheet{Number: number, Points: randomPoints(dice, between(dice, 1, most))}
}

// randomSheets returns sheets with numbers of their own, in any order.
func randomSheets(dice *rand.Rand, number int) []sheet.Sheet {
	first := []int{0, 250, 5000, 9990}[dice.IntN(4)]
	var l []sheet.Sheet
	for _, i := range dice.Perm(10)[:number] {
		l = append(l, randomSheet(dice, first+i))
	}
	return l
}

// write returns the cards of sheets by hand.
func write(l []sheet.Sheet) []card {
	var all []card
	for _, s := range l {
		all = append(all, cardsOf(s)...)
	}
	return all
}

// some brings lists of sheets.
func some(number, most int) func(func(*rand.Rand, []sheet.Sheet) bool) {
	return func(bring func(*rand.Rand, []sheet.Sheet) bool) {
		dice := rand.New(rand.NewPCG(11, uint64(most)))
		for range number {
			if !bring(dice, randomSheets(dice, dice.IntN(most+1))) {
				return
			}
		}
	}
}

// counts tell how many of the random inputs were of some kind.
type counts map[string]int

func (k counts) areLess(t *testing.T, than int, names ...string) {
	t.Helper()
	for _, name := range names {
		if k[name] < than {
			t.Errorf("%s: only %d of %v", name, k[name], k)
		}
	}
}

// P11.1
func TestCardsByHand(t *testing.T) {
	k := counts{}
	for _, l := range some(1500, 10) {
		b, e := sheet.Write(l)
		if want := layAll(write(l)); !slices.Equal(b, want) || e != api.OK {
			t.Fatalf("Write of %v: %v, %v, not %v", l, b, e, want)
		}
		for _, s := range l {
			cards, e := sheet.Cards(s)
			want := slices.Collect(slices.Chunk(layAll(cardsOf(s)), 40))
			if !slices.EqualFunc(cards, want, slices.Equal) || e != api.OK {
				t.Fatalf("Cards of %v: %v, %v, not %v", s, cards, e, want)
			}
			k[fmt.Sprint(min(len(cards), 10))]++
		}
	}
	k.areLess(t, 10, "1", "2", "3", "4", "5", "6", "7", "8", "9", "10")
}

// isAsByHand holds all that is told of some bytes against what is told by hand.
func isAsByHand(t *testing.T, b []byte, k counts) {
	t.Helper()
	h := heapOf(b)
	l, spoilt, e := sheet.Read(b)
	lacks, f := sheet.Missing(b)
	mended, g := sheet.Mend([][]byte{b})
	if h.twice {
		if len(l) != 0 || spoilt != 0 || e != api.ErrTwice || len(lacks) != 0 || f != e || len(mended) != 0 || g != e {
			t.Fatalf("of %v, where cards contradict each other: %v, %d, %v; %v, %v; %v, %v", b, l, spoilt, e, lacks, f, mended, g)
		}
		k["contradicting"]++
		return
	}
	if want := h.whole(); !areSheets(l, want) || spoilt != h.spoilt || e != api.OK {
		t.Fatalf("Read of %v: %v, %d, %v, not %v, %d", b, l, spoilt, e, want, h.spoilt)
	}
	if want := h.lacks(); !slices.Equal(lacks, want) || f != api.OK {
		t.Fatalf("Missing of %v: %v, %v, not %v", b, lacks, f, want)
	}
	if want := h.mended(); !slices.Equal(mended, want) || g != api.OK {
		t.Fatalf("Mend of %v: %v, %v, not %v", b, mended, g, want)
	}
	for _, number := range append(h.numbers(), 7777) {
		pieces, e := sheet.Pieces(b, number)
		want := h.pieces(number)
		if !arePieces(pieces, want) || (len(want) > 0) != (e == api.OK) || (len(want) == 0) != (e == api.ErrNone) {
			t.Fatalf("Pieces of %v, %d: %v, %v, not %v", b, number, pieces, e, want)
		}
		if len(want) > 1 {
			k["pieces"]++
		}
	}
	k.count(h)
}

func (k counts) count(h heap) {
	for name, is := range map[string]bool{
		"whole": len(h.whole()) > 0, "spoilt": h.spoilt > 0, "lacking": len(h.lacks()) > 0,
		"all cards, but no sheet": len(h.lacks()) == 0 && len(h.whole()) < len(h.numbers()),
	} {
		if is {
			k[name]++
		}
	}
}

// other returns a card that contradicts another one, or would do so if this were there.
func other(dice *rand.Rand, c card) card {
	last := len(c.points) - 1
	switch dice.IntN(4) {
	case 0:
		c.many = c.many%20 + 1
		c.index = min(c.index, c.many-1)
	case 1:
		c.many = between(dice, 1, 20)
		c.index = dice.IntN(c.many)
	case 2:
		c.points = c.points[:max(1, last)]
	case 3:
		c.points = points{p(c.points[0].Stretch, max(0, c.points[0].Load-1))}
	}
	return c
}

// P11.2, P11.3, P11.4: files whose blocks are mixed up, lost and spoilt, and some that contradict themselves.
func TestReadByHand(t *testing.T) {
	k := counts{}
	for dice, l := range some(5000, 4) {
		var b []byte
		file := layAll(write(l))
		lost, spoilt := dice.IntN(3), dice.IntN(3)
		for _, i := range dice.Perm(len(file) / 40) {
			block := slices.Clone(file[40*i : 40*i+40])
			for range spoilt {
				block[dice.IntN(38)] += byte([]int{0, 0, 0, 1, -1, 128}[dice.IntN(6)])
				if dice.IntN(2) == 0 {
					block = seal(block[:38]...)
				}
			}
			if lost == 0 || dice.IntN(3) > 0 {
				b = append(b, block...)
			}
			if dice.IntN(5) == 0 {
				b = append(b, block...)
			}
		}
		for _, c := range write(l) {
			if dice.IntN(15) == 0 {
				b = append(b, lay(other(dice, c))...)
			}
		}
		b = append(b, make([]byte, max(0, between(dice, -20, 39)))...)
		isAsByHand(t, b[:min(len(b), 8000)], k)
	}
	k.areLess(t, 200, "contradicting", "whole", "spoilt", "lacking", "pieces")
}

// P11.2, P11.3: cards by themselves, most of which are no sheet's.
func TestLooseCards(t *testing.T) {
	k := counts{}
	dice := rand.New(rand.NewPCG(11, 3))
	for range 5000 {
		many, number := between(dice, 1, []int{2, 3, 20}[dice.IntN(3)]), between(dice, 9990, 9999)
		part := randomPoints(dice, between(dice, 1, 100))
		var all []card
		for index := range many {
			n := min(len(part), dice.IntN(15)+1)
			for n > 0 && !hasRoom(card{points: part[:n]}) {
				n--
			}
			if n == 0 || dice.IntN(10) == 0 {
				part = randomPoints(dice, 50)
				n = dice.IntN(9) + 1
			}
			if dice.IntN(12) > 0 {
				all = append(all, card{number, index, many, part[:n]})
			}
			part = part[n:]
		}
		dice.Shuffle(len(all), func(i, j int) { all[i], all[j] = all[j], all[i] })
		isAsByHand(t, layAll(all), k)
	}
	k.areLess(t, 200, "whole", "lacking", "all cards, but no sheet", "pieces")
	if k["spoilt"]+k["contradicting"] > 0 {
		t.Errorf("cards are spoilt, or contradict each other: %v", k)
	}
}

// randomBlock returns a block with the right checks: the bytes of a card, some of which are others, most of them near to what a card may have.
func randomBlock(dice *rand.Rand) []byte {
	most := []int{1, 2, 3, 10, 15}[dice.IntN(5)]
	c := card{9999, 19, 20, randomPoints(dice, between(dice, 1, most))}
	for !hasRoom(c) {
		c.points = c.points[1:]
	}
	b := body(c)
	for range dice.IntN(4) {
		b[dice.IntN(len(b))] = []byte{0, 1, 2, 126, 127, 128, 129, 253, 254, 255, byte(dice.IntN(256))}[dice.IntN(11)]
	}
	b = append(b, make([]byte, 38-len(b))...)
	if dice.IntN(8) == 0 {
		b[between(dice, 10, 37)] = byte(between(dice, 1, 255))
	}
	if dice.IntN(4) == 0 {
		b[4] += byte(between(dice, -1, 1))
	}
	return seal(b...)
}

// P11.2: what is a card, whatever its bytes are.
func TestBlocksByHand(t *testing.T) {
	k := counts{}
	dice := rand.New(rand.NewPCG(11, 4))
	for range 100000 {
		b := randomBlock(dice)
		_, is := cardOf(b)
		_, spoilt, e := sheet.Read(b)
		if (spoilt == 0) != is || spoilt > 1 || e != api.OK {
			t.Fatalf("Read of %v: %d spoilt, %v; a card: %v", b, spoilt, e, is)
		}
		k[fmt.Sprint(is)]++
	}
	k.areLess(t, 20000, "true", "false")
	for range 20000 {
		b := make([]byte, dice.IntN(200))
		for i := range b {
			b[i] = byte(dice.IntN(256) & dice.IntN(256))
		}
		if _, spoilt, e := sheet.Read(b); spoilt != heapOf(b).spoilt || e != api.OK {
			t.Fatalf("Read of %v: %d spoilt, %v", b, spoilt, e)
		}
	}
}

// P11.1, P11.2: all steps; other bytes are no step's.
func TestAllSteps(t *testing.T) {
	steps := map[[2]byte]int{}
	for d := -16383; d <= 16383; d++ {
		b := [2]byte{}
		copy(b[:], stepByHand(d))
		steps[b] = d
		c, e := sheet.Cards(of(5, p(0, 500000), p(1, 500000+d)))
		if len(c) != 1 || !slices.Equal(c[0][10:14], []byte{1, b[0], b[1], 0}) || e != api.OK {
			t.Fatalf("Cards with the step %d: %v, %v", d, c, e)
		}
	}
	for n := range 65536 {
		b := [2]byte{byte(n / 256), byte(n % 256)}
		x := seal(0, 5, 0, 1, 2, 0, 0, 7, 161, 32, 1, b[0], b[1])
		l, spoilt, e := sheet.Read(x)
		d, is := steps[b]
		if e != api.OK || is && !(spoilt == 0 && areSheets(l, []sheet.Sheet{of(5, p(0, 500000), p(1, 500000+d))})) || !is && !(spoilt == 1 && len(l) == 0) {
			t.Fatalf("Read with the bytes %v: %v, %d, %v", b, l, spoilt, e)
		}
	}
}

// P11.4: several files, which may contradict each other.
func TestMendByHand(t *testing.T) {
	k := counts{}
	for dice, l := range some(2000, 4) {
		file := layAll(write(l))
		files := make([][]byte, dice.IntN(6))
		for i := range files {
			for _, at := range dice.Perm(len(file) / 40) {
				block := slices.Clone(file[40*at : 40*at+40])
				switch dice.IntN(8) {
				case 0, 1:
					continue
				case 2:
					block[dice.IntN(40)]++
				case 3:
					if c, is := cardOf(block); is && dice.IntN(3) == 0 {
						block = lay(other(dice, c))
					}
				}
				files[i] = append(files[i], block...)
			}
			files[i] = files[i][:max(0, len(files[i])-max(0, between(dice, -60, 60)))]
		}
		h := heapOf(files...)
		b, e := sheet.Mend(files)
		if want := h.mended(); h.twice && (len(b) != 0 || e != api.ErrTwice) || !h.twice && (!slices.Equal(b, want) || e != api.OK) {
			t.Fatalf("Mend of %v: %v, %v, not %v, %v", files, b, e, want, h.twice)
		}
		switch {
		case h.twice:
			k["contradicting"]++
		case len(l) > 0 && slices.Equal(h.mended(), layAll(write(byNumber(l)))):
			k["mended"]++
		default:
			k["lacking"]++
		}
	}
	k.areLess(t, 200, "contradicting", "mended", "lacking")
}
