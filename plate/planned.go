package plate

import (
	"slices"

	"tensile/api"
)

// unused stands for the number of a piece where a specimen is not used, and for that of a specimen where a piece is not.
const unused = -1

// planned is a plate behind the cuts of a plan, with the plan's uses.
type planned struct {
	sawn
	uses []int
}

// carryOut does the cuts of a plan, and tests whether it is right.
func carryOut(p Plate, x Plan) (planned, api.Errno) {
	s, e := saw(p, x.Cuts)
	if e != api.OK {
		return planned{}, e
	}
	all := planned{s, x.Uses}
	switch {
	case len(x.Uses) != len(p.Wanted) || !each(x.Uses, all.isThere):
		return planned{}, api.ErrRange
	case !each(x.Uses, all.mayUse):
		return planned{}, api.ErrSpoil
	}
	return all, api.OK
}

func (x planned) isThere(_, piece int) bool { return piece == unused || x.hasPiece(piece) }

// mayUse reports whether the specimen is not used, or may be used as the piece.
func (x planned) mayUse(specimen, piece int) bool {
	if piece == unused {
		return true
	}
	it := x.parts[piece]
	return !it.isCut && x.specimenOf(piece) == specimen && x.Wanted[specimen].fits(it.Piece)
}

// hasRoom reports whether the piece has room for the specimen within its zone.
func (w Wanted) hasRoom(p Piece) bool {
	wide, long := p.xs().common(w.X), p.ys().common(w.Y)
	return wide >= w.Wide && long >= w.Long || w.Turn && wide >= w.Long && long >= w.Wide
}

// fits reports whether the piece is as wide and as long as the specimen, and lies in its zone: it has room, and no unit more.
func (w Wanted) fits(p Piece) bool { return w.hasRoom(p) && units(p) == w.Wide*w.Long }

// specimenOf returns the first specimen that is used as the piece, or unused. For Chips it does not look, as it would find a specimen that is not used.
func (x planned) specimenOf(piece int) int {
	if piece == Chips {
		return unused
	}
	return slices.Index(x.uses, piece)
}

func (x planned) weigh() Weights {
	var specimens, remnants []Piece
	for number, it := range x.parts {
		switch {
		case it.isCut:
		case x.specimenOf(number) != unused:
			specimens = append(specimens, it.Piece)
		default:
			remnants = append(remnants, it.Piece)
		}
	}
	w := Weights{Specimens: units(specimens...), Remnants: units(remnants...)}
	w.Chips = units(x.whole()) - w.Specimens - w.Remnants
	for specimen, piece := range x.uses {
		if piece != unused {
			w.Worth += x.Wanted[specimen].Worth
		}
	}
	return w
}
