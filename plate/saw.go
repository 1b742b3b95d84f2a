package plate

import (
	"iter"

	"tensile/api"
)

func (p Piece) wide() int { return p.Wide }
func (p Piece) long() int { return p.Long }

// partOfWide returns what has so many units of the width, from one on.
func (p Piece) partOfWide(from, many int) Piece {
	return Piece{p.X + from, p.Y, many, p.Long}
}

// partOfLong returns what has so many units of the length, from one on.
func (p Piece) partOfLong(from, many int) Piece {
	return Piece{p.X, p.Y + from, p.Wide, many}
}

// direction is one of the two in which a piece is cut: its side, and what is cut out of it.
type direction struct {
	side func(Piece) int
	part func(p Piece, from, many int) Piece
}

func (c Cut) direction() direction {
	if c.Across {
		return direction{Piece.long, Piece.partOfLong}
	}
	return direction{Piece.wide, Piece.partOfWide}
}

func (p Piece) xs() Range { return Range{p.X, p.X + p.Wide - 1} }
func (p Piece) ys() Range { return Range{p.Y, p.Y + p.Long - 1} }

func (p Piece) has(x, y int) bool { return p.xs().has(x) && p.ys().has(y) }

// units returns how many units the pieces have together.
func units(pieces ...Piece) int {
	sum := 0
	for _, p := range pieces {
		sum += p.Wide * p.Long
	}
	return sum
}

func (p Plate) whole() Piece { return Piece{Wide: p.Wide, Long: p.Long} }

// newPieces brings what a cut makes of a piece that it can go through: a piece without units is none.
func (p Plate) newPieces(old Piece, c Cut) iter.Seq[Piece] {
	return func(bring func(Piece) bool) {
		d, behind := c.direction(), c.At+p.Saw
		for _, n := range [...]Piece{d.part(old, 0, c.At), d.part(old, behind, d.side(old)-behind)} {
			if units(n) > 0 && !bring(n) {
				return
			}
		}
	}
}

// canCut reports whether the cut can go through the piece.
func (p Plate) canCut(old Piece, c Cut) bool {
	room := Range{0, c.direction().side(old) - p.Saw}
	if !room.has(c.At) {
		return false
	}
	many := 0
	for range p.newPieces(old, c) {
		many++
	}
	return many == 2 || many == 1 && p.Saw > 0
}

// part is a piece that there is, or was until it was cut.
type part struct {
	Piece
	isCut bool
}

// sawn is a plate behind some cuts.
type sawn struct {
	Plate
	parts []part // by number
}

// saw does the cuts in their order.
func saw(p Plate, cuts []Cut) (sawn, api.Errno) {
	if e := p.check(); e != api.OK {
		return sawn{}, e
	}
	if len(cuts) > api.MaxPlateCuts {
		return sawn{}, api.ErrLimit
	}
	s := sawn{p, []part{{Piece: p.whole()}}}
	for _, c := range cuts {
		if !s.canDo(c) {
			return sawn{}, api.ErrSpoil
		}
		s.parts[c.Piece].isCut = true
		for n := range s.newPieces(s.parts[c.Piece].Piece, c) {
			s.parts = append(s.parts, part{Piece: n})
		}
	}
	return s, api.OK
}

func (s sawn) hasPiece(number int) bool { return 0 <= number && number < len(s.parts) }

func (s sawn) canDo(c Cut) bool {
	return s.hasPiece(c.Piece) && !s.parts[c.Piece].isCut && s.canCut(s.parts[c.Piece].Piece, c)
}

func (s sawn) pieces() []Piece {
	var all []Piece
	for _, it := range s.parts {
		all = append(all, it.Piece)
	}
	return all
}

// pieceAt returns the number of the piece that has the unit, and was not cut, or Chips.
func (s sawn) pieceAt(x, y int) int {
	found := Chips
search:
	for number, it := range s.parts {
		switch {
		case it.isCut, !it.has(x, y):
		default:
			found = number
			break search
		}
	}
	return found
}
