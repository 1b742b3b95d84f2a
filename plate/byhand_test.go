package plate_test

import (
	"iter"
	"math/rand/v2"
	"slices"
	"testing"

	"tensile/api"
	"tensile/plate"
)

// The functions of this file say word for word what the chapter's definitions do, and know pieces by their units alone.

type unit struct{ x, y int }

type painted struct {
	units []unit
	isCut bool
}

func unitsOf(p plate.Piece) []unit {
	var all []unit
	for x := p.X; x < p.X+p.Wide; x++ {
		for y := p.Y; y < p.Y+p.Long; y++ {
			all = append(all, unit{x, y})
		}
	}
	return all
}

func ends(units []unit, number func(unit) int) (low, high int) {
	low, high = number(units[0]), number(units[0])
	for _, u := range units {
		low, high = min(low, number(u)), max(high, number(u))
	}
	return low, high
}

func numberX(u unit) int { return u.x }
func numberY(u unit) int { return u.y }

// around returns the piece that has just these units.
func around(units []unit) plate.Piece {
	lowX, highX := ends(units, numberX)
	lowY, highY := ends(units, numberY)
	return plate.Piece{X: lowX, Y: lowY, Wide: highX - lowX + 1, Long: highY - lowY + 1}
}

// cutUnits returns the new pieces, without those that are none; how many units became chips; and whether the cut can go through these units.
func cutUnits(units []unit, c plate.Cut, saw int) (pieces []painted, chips int, fine bool) {
	number := numberX
	if c.Across {
		number = numberY
	}
	low, high := ends(units, number)
	var first, second painted
	for _, u := range units {
		switch n := number(u) - low; {
		case n < c.At:
			first.units = append(first.units, u)
		case n-c.At < saw:
			chips++
		default:
			second.units = append(second.units, u)
		}
	}
	for _, p := range []painted{first, second} {
		if len(p.units) > 0 {
			pieces = append(pieces, p)
		}
	}
	fits := c.At >= 0 && c.At <= high-low+1 && c.At+saw <= high-low+1
	return pieces, chips, fits && len(pieces) > 0 && (saw > 0 || len(pieces) == 2)
}

// cutByHand returns all pieces behind the cuts, how many units became chips by each, and whether they can be done.
func cutByHand(p plate.Plate, list []plate.Cut) (all []painted, chips []int, fine bool) {
	all = []painted{{units: unitsOf(piece(0, 0, p.Wide, p.Long))}}
	for _, c := range list {
		if c.Piece < 0 || c.Piece >= len(all) || all[c.Piece].isCut {
			return nil, nil, false
		}
		pieces, lost, fine := cutUnits(all[c.Piece].units, c, p.Saw)
		if !fine {
			return nil, nil, false
		}
		all[c.Piece].isCut = true
		all = append(all, pieces...)
		chips = append(chips, lost)
	}
	return all, chips, true
}

// isRight reports whether the units can be used as the specimen.
func isRight(w plate.Wanted, units []unit) bool {
	p := around(units)
	sized := p.Wide == w.Wide && p.Long == w.Long
	if w.Turn {
		sized = sized || p.Wide == w.Long && p.Long == w.Wide
	}
	return sized && !slices.ContainsFunc(units, func(u unit) bool {
		return u.x < w.X.Lo || u.x > w.X.Hi || u.y < w.Y.Lo || u.y > w.Y.Hi
	})
}

func errorByHand(p plate.Plate, x plate.Plan, all []painted) api.Errno {
	if len(x.Uses) != len(p.Wanted) {
		return api.ErrRange
	}
	for _, n := range x.Uses {
		if n < -1 || n >= len(all) {
			return api.ErrRange
		}
	}
	for i, n := range x.Uses {
		if n != -1 && (all[n].isCut || slices.Contains(x.Uses[:i], n) || !isRight(p.Wanted[i], all[n].units)) {
			return api.ErrSpoil
		}
	}
	return api.OK
}

func weighByHand(p plate.Plate, x plate.Plan, all []painted, chips []int) plate.Weights {
	var w plate.Weights
	for n, it := range all {
		if !it.isCut && slices.Contains(x.Uses, n) {
			w.Specimens += len(it.units)
		} else if !it.isCut {
			w.Remnants += len(it.units)
		}
	}
	for _, lost := range chips {
		w.Chips += lost
	}
	for i, n := range x.Uses {
		if n != -1 {
			w.Worth += p.Wanted[i].Worth
		}
	}
	return w
}

// traceByHand returns what a unit of the plate has become.
func traceByHand(x plate.Plan, all []painted, at unit) (number, specimen int) {
	for n, it := range all {
		if !it.isCut && slices.Contains(it.units, at) {
			return n, slices.Index(x.Uses, n)
		}
	}
	return plate.Chips, -1
}

func anyRange(dice *rand.Rand, most int) plate.Range {
	a, b := dice.IntN(most+1), dice.IntN(most+1)
	return to(min(a, b), max(a, b))
}

// anyWanted returns a specimen; half of them may lie anywhere.
func anyWanted(dice *rand.Rand, side int) plate.Wanted {
	w := want(1+dice.IntN(side), 1+dice.IntN(side), dice.IntN(6))
	w.Turn = dice.IntN(2) == 0
	if dice.IntN(2) == 0 {
		w.X, w.Y = anyRange(dice, side), anyRange(dice, side)
	}
	return w
}

// anyPlate returns a valid plate whose sides are at most that.
func anyPlate(dice *rand.Rand, side int) plate.Plate {
	p := sheet(1+dice.IntN(side), 1+dice.IntN(side), dice.IntN(3))
	for range dice.IntN(5) {
		p.Wanted = append(p.Wanted, anyWanted(dice, min(side, 7)))
	}
	return p
}

// anyCuts returns cuts most of which can be done.
func anyCuts(dice *rand.Rand, p plate.Plate) []plate.Cut {
	var list []plate.Cut
	for range dice.IntN(9) {
		all, _, _ := cutByHand(p, list)
		c := plate.Cut{Piece: dice.IntN(len(all)+2) - 1, Across: dice.IntN(2) == 0, At: dice.IntN(11) - 1}
		if _, _, fine := cutByHand(p, append(slices.Clone(list), c)); fine {
			list = append(list, c)
		} else if dice.IntN(30) == 0 {
			return append(list, c)
		}
	}
	return list
}

// anyUses returns uses of the specimens, and makes some of these so that they are right.
func anyUses(dice *rand.Rand, p *plate.Plate, all []painted) []int {
	var list []int
	for i := range p.Wanted {
		n := dice.IntN(len(all)+1) - 1
		if n >= 0 && dice.IntN(6) > 0 && (all[n].isCut || slices.Contains(list, n)) {
			n = -1
		}
		if n >= 0 && dice.IntN(6) > 0 {
			it, turned := around(all[n].units), dice.IntN(2) == 0
			w := within(want(it.Wide, it.Long, dice.IntN(9)), to(dice.IntN(it.X+1), 7-dice.IntN(9-it.X-it.Wide)), to(dice.IntN(it.Y+1), 7-dice.IntN(9-it.Y-it.Long)))
			if w.Turn = turned; turned {
				w.Wide, w.Long = w.Long, w.Wide
			}
			p.Wanted[i] = w
		}
		list = append(list, n)
	}
	switch dice.IntN(30) {
	case 0:
		list = append(list, -1)
	case 1:
		list = append(list[:len(list)/2], dice.IntN(40)-10)
	}
	return list
}

type job struct {
	p plate.Plate
	x plate.Plan
}

// jobs brings plates with plans, the same ones each time: the cuts of some cannot be done, or the plans are not right otherwise.
func jobs(number int) iter.Seq[job] {
	return func(bring func(job) bool) {
		dice := rand.New(rand.NewPCG(3, 1))
		for range number {
			p := anyPlate(dice, 8)
			x := plate.Plan{Cuts: anyCuts(dice, p)}
			all, _, fine := cutByHand(p, x.Cuts)
			if fine {
				x.Uses = anyUses(dice, &p, all)
			}
			if !bring(job{p, x}) {
				return
			}
		}
	}
}

// rightJobs brings those whose plans are right.
func rightJobs(number int) iter.Seq[job] {
	return func(bring func(job) bool) {
		for j := range jobs(number) {
			all, _, fine := cutByHand(j.p, j.x.Cuts)
			if fine && errorByHand(j.p, j.x, all) == api.OK && !bring(j) {
				return
			}
		}
	}
}

func arounds(all []painted) []plate.Piece {
	var list []plate.Piece
	for _, it := range all {
		list = append(list, around(it.units))
	}
	return list
}

// P3.1, P3.2, P3.3, P3.5
func TestPlansByHand(t *testing.T) {
	count := map[api.Errno]int{}
	used := 0
	for j := range jobs(6000) {
		all, chips, fine := cutByHand(j.p, j.x.Cuts)
		pieces, weights, e, f := arounds(all), plate.Weights{}, api.ErrSpoil, api.ErrSpoil
		if fine {
			e, f = errorByHand(j.p, j.x, all), api.OK
		}
		count[e]++
		if e == api.OK {
			weights = weighByHand(j.p, j.x, all, chips)
			used += weights.Specimens
		}
		if l, n := plate.Pieces(j.p, j.x.Cuts); !slices.Equal(l, pieces) || n != f {
			t.Fatalf("Pieces of %v: %v, %v, not %v, %v", j, l, n, pieces, f)
		}
		if w, n := plate.Weigh(j.p, j.x); w != weights || n != e {
			t.Fatalf("Weigh of %v: %v, %v, not %v, %v", j, w, n, weights, e)
		}
		for worth := weights.Worth - 1; worth <= weights.Worth+1; worth++ {
			for many := len(j.x.Cuts) - 1; many <= len(j.x.Cuts)+1; many++ {
				right := e == api.OK && worth <= weights.Worth && many >= len(j.x.Cuts)
				if plate.ProvePlan(j.p, j.x, worth, many) != right {
					t.Fatalf("ProvePlan of %v, %d, %d is not %v", j, worth, many, right)
				}
			}
		}
		if e != api.OK {
			continue
		}
		for _, u := range unitsOf(pieces[0]) {
			number, specimen := traceByHand(j.x, all, u)
			if n, s, e := plate.Trace(j.p, j.x, u.x, u.y); n != number || s != specimen || e != api.OK {
				t.Fatalf("Trace of %v at %v: %d, %d, %v, not %d, %d", j, u, n, s, e, number, specimen)
			}
		}
	}
	if count[api.OK] < 1000 || count[api.ErrSpoil] < 100 || count[api.ErrRange] < 100 || used == 0 {
		t.Errorf("%v, %d units of specimens", count, used)
	}
}
