package plate_test

import (
	"cmp"
	"math/rand/v2"
	"slices"
	"testing"

	"tensile/api"
	"tensile/plate"
)

// cutting is what there is behind some cuts: the pieces that were not cut, in one order.
type cutting struct {
	pieces []plate.Piece
	cuts   int
}

func order(p, q plate.Piece) int {
	return cmp.Or(cmp.Compare(p.X, q.X), cmp.Compare(p.Y, q.Y), cmp.Compare(p.Wide, q.Wide), cmp.Compare(p.Long, q.Long))
}

func (c cutting) key() string {
	var text []byte
	for _, p := range c.pieces {
		text = append(text, byte(p.X), byte(p.Y), byte(p.Wide), byte(p.Long))
	}
	return string(text)
}

// next returns what one more cut can make of it.
func (c cutting) next(saw int) []cutting {
	var all []cutting
	for i, p := range c.pieces {
		units := unitsOf(p)
		for at := range api.MaxPlateSide {
			for _, x := range []plate.Cut{cut(0, at), across(0, at)} {
				parts, _, fine := cutUnits(units, x, saw)
				if !fine {
					continue
				}
				rest := append(slices.Delete(slices.Clone(c.pieces), i, i+1), arounds(parts)...)
				slices.SortFunc(rest, order)
				all = append(all, cutting{rest, c.cuts + 1})
			}
		}
	}
	return all
}

// cuttings returns all that can be cut out of a plate, each with the fewest cuts.
func cuttings(wide, long, saw int) []cutting {
	open := []cutting{{pieces: []plate.Piece{piece(0, 0, wide, long)}}}
	known := map[string]bool{open[0].key(): true}
	for i := 0; i < len(open); i++ {
		for _, next := range open[i].next(saw) {
			if key := next.key(); !known[key] {
				known[key] = true
				open = append(open, next)
			}
		}
	}
	return open
}

// mostWorth returns the greatest worth of specimens that can be used as pieces, each as another one.
func mostWorth(pieces []plate.Piece, wanted []plate.Wanted, fits func(plate.Wanted, plate.Piece) bool) int {
	if len(wanted) == 0 {
		return 0
	}
	most := mostWorth(pieces, wanted[1:], fits)
	for i, p := range pieces {
		if fits(wanted[0], p) {
			others := slices.Delete(slices.Clone(pieces), i, i+1)
			most = max(most, wanted[0].Worth+mostWorth(others, wanted[1:], fits))
		}
	}
	return most
}

// bestOf returns the worth and the cuts of the best plans.
func bestOf(all []cutting, wanted []plate.Wanted) (worth, cuts int) {
	type pair struct {
		w plate.Wanted
		p plate.Piece
	}
	kept := map[pair]bool{}
	fits := func(w plate.Wanted, p plate.Piece) bool {
		right, known := kept[pair{w, p}]
		if !known {
			right = isRight(w, unitsOf(p))
			kept[pair{w, p}] = right
		}
		return right
	}
	for _, c := range all {
		if n := mostWorth(c.pieces, wanted, fits); n > worth {
			worth, cuts = n, c.cuts
		}
	}
	return worth, cuts
}

// P3.4, P3.7, P4
func TestBestOfAllCuttings(t *testing.T) {
	dice := rand.New(rand.NewPCG(4, 1))
	worths, counts := map[int]int{}, map[int]int{}
	for _, shape := range []struct{ wide, long, saw, plates int }{
		{1, 1, 0, 20}, {1, 6, 0, 100}, {2, 3, 0, 200}, {3, 3, 0, 200}, {4, 3, 0, 60}, {4, 4, 0, 6},
		{1, 1, 1, 20}, {7, 1, 1, 100}, {3, 4, 1, 200}, {4, 4, 1, 100}, {5, 4, 1, 40}, {5, 5, 1, 3},
		{2, 1, 2, 20}, {1, 8, 2, 100}, {4, 5, 2, 200}, {5, 5, 2, 100}, {6, 6, 2, 60}, {7, 6, 2, 20},
	} {
		all := cuttings(shape.wide, shape.long, shape.saw)
		for range shape.plates {
			p := sheet(shape.wide, shape.long, shape.saw)
			for range 1 + dice.IntN(4) {
				p.Wanted = append(p.Wanted, anyWanted(dice, min(1+max(shape.wide, shape.long)/2, 7)))
			}
			worth, cuts := bestOf(all, p.Wanted)
			y, n, e := plate.Best(p)
			if n != worth || len(y.Cuts) != cuts || e != api.OK {
				t.Fatalf("Best of %v: %v, %d, %v, not %d by %d cuts", p, y, n, e, worth, cuts)
			}
			if !plate.ProvePlan(p, y, n, cuts) {
				t.Fatalf("ProvePlan of %v, Best of %v", y, p)
			}
			worths[worth]++
			counts[cuts]++
		}
	}
	if len(worths) < 10 || len(counts) < 6 {
		t.Errorf("plates with worths %v, with cuts %v", worths, counts)
	}
}
