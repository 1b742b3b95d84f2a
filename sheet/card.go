package sheet

import "tensile/api"

// place is where a card belongs: on the sheet with the number, at the index.
type place struct{ number, index int }

// card is one of so many of its sheet.
type card struct {
	place
	many   int
	points []Point
}

func (c card) isRight() bool {
	return isNumber(c.number) && isFromTo(c.many, 1, api.MaxSheetCards) && isFromTo(c.index, 0, c.many-1) && areRight(c.points)
}

// wide is what the first of the two bytes of a step has in it beside the number; a byte below it is alone.
const wide = 128

// stepBytes returns the bytes of a step.
func stepBytes(step int) []byte {
	folded := 2 * step
	if step < 0 {
		folded = -2*step - 1
	}
	if folded < wide {
		return bytesOf(folded, 1)
	}
	return bytesOf(wide<<8+folded, 2)
}

// step takes one. What is not laid down as stepBytes has it is not told here.
func (r *reader) step() int {
	folded := r.take(1)
	if folded >= wide {
		folded = (folded-wide)<<8 + r.take(1)
	}
	if folded%2 == 1 {
		return -(folded + 1) / 2
	}
	return folded / 2
}

// bytesTo returns the bytes of the next point.
func (p Point) bytesTo(next Point) []byte {
	return join(bytesOf(next.Stretch-p.Stretch, 1), stepBytes(next.Load-p.Load))
}

// lay lays the card down.
func (c card) lay() block {
	var b block
	put := b.writer()
	first := c.points[0]
	put(join(bytesOf(c.number, 2), bytesOf(c.index, 1), bytesOf(c.many, 1), bytesOf(len(c.points), 1)))
	put(join(bytesOf(first.Stretch, 2), bytesOf(first.Load, 3)))
	for i, p := range c.points[1:] {
		put(c.points[i].bytesTo(p))
	}
	b.seal()
	return b
}

// layAll lays all cards down, each in bytes of its own.
func layAll(cards []card) [][]byte {
	var all [][]byte
	for _, c := range cards {
		b := c.lay()
		all = append(all, b[:])
	}
	return all
}

// read returns the card, and whether the block is one. The bytes are taken as they come; as a card is laid down in one way only, whatever is wrong with them shows when this is done again.
func (b block) read() (c card, isCard bool) {
	defer func() {
		if _, isShort := recover().(tooShort); isShort {
			c, isCard = card{}, false
		}
	}()
	r := reader{b[:checksAt]}
	c.number, c.index, c.many = r.take(2), r.take(1), r.take(1)
	points := r.take(1)
	p := Point{r.take(2), r.take(3)}
	c.points = append(c.points, p)
	for len(c.points) < points {
		further, step := r.take(1), r.step()
		p = Point{p.Stretch + further, p.Load + step}
		c.points = append(c.points, p)
	}
	return c, c.isRight() && c.lay() == b
}

// deal returns the points of each card: as many as have room, from the first one on.
func deal(points []Point) [][]Point {
	var all [][]Point
	from, used := 0, 0
	for i, p := range points {
		if i > from {
			used += len(points[i-1].bytesTo(p))
		}
		if used > room {
			all = append(all, points[from:i])
			from, used = i, 0
		}
	}
	return append(all, points[from:])
}

// cards returns those of the sheet.
func (s Sheet) cards() []card {
	var all []card
	dealt := deal(s.Points)
	for index, points := range dealt {
		all = append(all, card{place{s.Number, index}, len(dealt), points})
	}
	return all
}
