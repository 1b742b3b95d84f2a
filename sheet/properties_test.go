package sheet_test

import (
	"math/rand/v2"
	"slices"
	"testing"

	"tensile/api"
	"tensile/sheet"
)

func readOf(t *testing.T, b []byte) ([]sheet.Sheet, int) {
	t.Helper()
	l, spoilt, e := sheet.Read(b)
	if e != api.OK {
		t.Fatalf("Read of %v: %v", b, e)
	}
	return l, spoilt
}

func missingIn(t *testing.T, b []byte) []sheet.Lack {
	t.Helper()
	lacks, e := sheet.Missing(b)
	if e != api.OK {
		t.Fatalf("Missing of %v: %v", b, e)
	}
	return lacks
}

func mendedOf(t *testing.T, files ...[]byte) []byte {
	t.Helper()
	b, e := sheet.Mend(files)
	if e != api.OK {
		t.Fatalf("Mend of %v: %v", files, e)
	}
	return b
}

// without returns sheets but those with a number.
func without(l []sheet.Sheet, number int) []sheet.Sheet {
	return slices.DeleteFunc(slices.Clone(l), func(s sheet.Sheet) bool { return s.Number == number })
}

// blockOf returns a block of a file.
func blockOf(b []byte, i int) []byte { return b[40*i : 40*i+40] }

// P11.5
func TestBack(t *testing.T) {
	for _, l := range some(1000, 10) {
		b := fileOf(t, l...)
		read, spoilt := readOf(t, b)
		if lacks := missingIn(t, b); !areSheets(read, byNumber(l)) || spoilt != 0 || len(lacks) != 0 {
			t.Fatalf("Read of the file of %v: %v, %d; %v", l, read, spoilt, lacks)
		}
	}
}

// isSpoiltAlone holds a file, a byte of which is another one, against the sheets that it is of.
func isSpoiltAlone(t *testing.T, l []sheet.Sheet, cards []card, b []byte, at int) bool {
	t.Helper()
	c := cards[at/40]
	read, spoilt := readOf(t, b)
	if !areSheets(read, without(byNumber(l), c.number)) || spoilt != 1 {
		t.Fatalf("Read of the file of %v with the byte %d for %d: %v, %d", l, b[at], at, read, spoilt)
	}
	var want []sheet.Lack
	if c.many > 1 {
		want = []sheet.Lack{lack(c.number, c.index)}
	}
	if lacks := missingIn(t, b); !slices.Equal(lacks, want) {
		t.Fatalf("Missing of the file of %v with the byte %d for %d: %v", l, b[at], at, lacks)
	}
	if _, e := sheet.Pieces(b, c.number); (e == api.ErrNone) != (c.many == 1) {
		t.Fatalf("Pieces of the file of %v with the byte %d for %d: %v", l, b[at], at, e)
	}
	return c.many > 1
}

// P11.6: all bytes, in all ways.
func TestOneByteOfACard(t *testing.T) {
	for _, s := range []sheet.Sheet{example(), of(0, p(0, 0)), of(9999, p(65535, 1000000)), line(513, 15, 1), line(300, 10, -100), zigzag(7, 11, 16383, -16383)} {
		b := fileOf(t, s)
		for at := range b {
			for by := 1; by < 256; by++ {
				b[at] += byte(by)
				isSpoiltAlone(t, []sheet.Sheet{s}, cardsOf(s), b, at)
				b[at] -= byte(by)
			}
		}
	}
}

// P11.6
func TestOneByte(t *testing.T) {
	k := counts{}
	for dice, l := range some(1500, 10) {
		b := fileOf(t, l...)
		for range min(len(b), 10) {
			at, by := dice.IntN(len(b)), byte(between(dice, 1, 255))
			b[at] += by
			if isSpoiltAlone(t, l, write(l), b, at) {
				k["one of several"]++
			} else {
				k["an only one"]++
			}
			b[at] -= by
		}
	}
	k.areLess(t, 1000, "one of several", "an only one")
}

// mixed returns blocks in another order, and some of them twice.
func mixed(dice *rand.Rand, b []byte) []byte {
	var out []byte
	for _, i := range dice.Perm(len(b) / 40) {
		out = append(out, blockOf(b, i)...)
		if dice.IntN(3) == 0 {
			out = append(out, blockOf(b, dice.IntN(len(b)/40))...)
		}
	}
	return out
}

// P11.7, P6: with lost blocks, as well.
func TestAnyOrder(t *testing.T) {
	k := counts{}
	for dice, l := range some(2500, 6) {
		var b []byte
		for _, c := range write(l) {
			if dice.IntN(6) > 0 {
				b = append(b, lay(c)...)
			}
		}
		other := mixed(dice, b)
		read, spoilt := readOf(t, b)
		again, spoiltToo := readOf(t, other)
		if !areSheets(read, again) || spoilt != 0 || spoiltToo != 0 {
			t.Fatalf("Read of %v: %v, %d, but of %v: %v, %d", b, read, spoilt, other, again, spoiltToo)
		}
		if lacks, too := missingIn(t, b), missingIn(t, other); !slices.Equal(lacks, too) {
			t.Fatalf("Missing of %v: %v, but of %v: %v", b, lacks, other, too)
		}
		for _, s := range l {
			pieces, e := sheet.Pieces(b, s.Number)
			too, f := sheet.Pieces(other, s.Number)
			if !arePieces(pieces, too) || e != f {
				t.Fatalf("Pieces of %v, %d: %v, %v, but of %v: %v, %v", b, s.Number, pieces, e, other, too, f)
			}
			if len(pieces) > 1 {
				k["pieces"]++
			}
		}
		if len(other) > len(b) {
			k["twice"]++
		}
	}
	k.areLess(t, 200, "pieces", "twice")
}

// spoil spoils some blocks of a file.
func spoil(dice *rand.Rand, b []byte, isKept func(block int) bool) []byte {
	out := slices.Clone(b)
	for i := range len(b) / 40 {
		if isKept(i) || dice.IntN(4) == 0 {
			continue
		}
		out[40*i+dice.IntN(40)] += byte(between(dice, 1, 255))
	}
	return out
}

// P11.8, P7
func TestMended(t *testing.T) {
	k := counts{}
	for dice, l := range some(1000, 10) {
		b := fileOf(t, byNumber(l)...)
		keeper := make([]int, len(b)/40)
		copies := make([][]byte, between(dice, 1, 5))
		for i := range keeper {
			keeper[i] = dice.IntN(len(copies))
		}
		for i := range copies {
			copies[i] = spoil(dice, b, func(block int) bool { return keeper[block] == i })
			if read, _ := readOf(t, copies[i]); len(read) < len(l) {
				k["spoilt"]++
			}
			copies[i] = append(copies[i], make([]byte, dice.IntN(2)*dice.IntN(90))...)
		}
		if m := mendedOf(t, copies...); !slices.Equal(m, b) {
			t.Fatalf("Mend of %v: %v, not %v", copies, m, b)
		}
	}
	k.areLess(t, 1000, "spoilt")
}

// P7: from what is spoilt nothing is read that was not there.
func TestNothingFalse(t *testing.T) {
	for dice, l := range some(1000, 5) {
		b := spoil(dice, fileOf(t, l...), func(int) bool { return dice.IntN(2) == 0 })
		read, spoilt := readOf(t, b)
		want := byNumber(l)
		many := 0
		for i, c := range write(l) {
			if !slices.Equal(blockOf(b, i), lay(c)) {
				want = without(want, c.number)
				many++
			}
		}
		if !areSheets(read, want) || spoilt != many {
			t.Fatalf("Read of %v: %v, %d, not %v, %d", b, read, spoilt, want, many)
		}
	}
}

// P11.9, P8: files cut off behind each byte.
func TestCutOff(t *testing.T) {
	for _, l := range some(150, 5) {
		b := fileOf(t, l...)
		for n := range len(b) + 1 {
			var whole []sheet.Sheet
			for end, i := 0, 0; i < len(l); i++ {
				end += 40 * len(cardsOf(l[i]))
				if end <= n {
					whole = append(whole, l[i])
				}
			}
			read, spoilt := readOf(t, b[:n])
			if !areSheets(read, byNumber(whole)) || spoilt != min(n%40, 1) {
				t.Fatalf("Read of %d bytes of the file of %v: %v, %d", n, l, read, spoilt)
			}
		}
	}
}

func greatest(l points) int {
	most := 0
	for _, x := range l {
		most = max(most, x.Load)
	}
	return most
}

// P11.10
func TestPiecesOfASheet(t *testing.T) {
	k := counts{}
	dice := rand.New(rand.NewPCG(11, 10))
	for range 2000 {
		s := randomSheet(dice, 5)
		var there points
		var b []byte
		for _, c := range cardsOf(s) {
			if dice.IntN(3) > 0 {
				there = append(there, c.points...)
				b = append(b, lay(c)...)
			}
		}
		pieces, e := sheet.Pieces(mixed(dice, b), 5)
		all := slices.Concat(pieces...)
		if !slices.Equal(all, there) || (e == api.OK) != (len(there) > 0) || greatest(all) > greatest(s.Points) {
			t.Fatalf("Pieces of %v: %v, %v, not %v", b, pieces, e, there)
		}
		if greatest(all) < greatest(s.Points) && len(all) > 0 {
			k["less"]++
		}
		if len(pieces) > 1 {
			k["pieces"]++
		}
	}
	k.areLess(t, 100, "less", "pieces")
}

// P11.11
func TestFewBytes(t *testing.T) {
	k := counts{}
	dice := rand.New(rand.NewPCG(11, 11))
	for range 3000 {
		s := randomSheet(dice, 5)
		cards, e := sheet.Cards(s)
		if len(cards) > (len(s.Points)+9)/10 || e != api.OK {
			t.Fatalf("Cards of %v: %v, %v", s, cards, e)
		}
		from := 0
		for i, b := range cards[:len(cards)-1] {
			next := from + int(b[4])
			if hasRoom(card{points: s.Points[from : next+1]}) {
				t.Fatalf("Cards of %v: %v, the card %d has room", s, cards, i)
			}
			from = next
			k["not the last one"]++
		}
		if len(cards) == (len(s.Points)+9)/10 && len(cards) > 1 {
			k["as many as can be"]++
		}
	}
	k.areLess(t, 200, "not the last one", "as many as can be")
}

// P11.12, P6
func TestMendedAgain(t *testing.T) {
	for dice, l := range some(1000, 6) {
		b := fileOf(t, l...)
		files := make([][]byte, dice.IntN(6))
		for i := range files {
			files[i] = spoil(dice, mixed(dice, b), func(int) bool { return dice.IntN(3) > 0 })
		}
		m := mendedOf(t, files...)
		if again := mendedOf(t, m); !slices.Equal(again, m) {
			t.Fatalf("Mend of %v, which was mended: %v", m, again)
		}
		dice.Shuffle(len(files), func(i, j int) { files[i], files[j] = files[j], files[i] })
		if other := mendedOf(t, files...); !slices.Equal(other, m) {
			t.Fatalf("Mend of %v in another order: %v, not %v", files, other, m)
		}
		if len(files) < 5 {
			if more := mendedOf(t, append(files, m)...); !slices.Equal(more, m) {
				t.Fatalf("Mend of %v and what was mended: %v, not %v", files, more, m)
			}
		}
	}
}
