package plate_test

import (
	"math"
	"reflect"
	"slices"
	"testing"

	"tensile/api"
	"tensile/plate"
)

func to(low, high int) plate.Range { return plate.Range{Lo: low, Hi: high} }

// want is a specimen that may lie anywhere.
func want(wide, long, worth int) plate.Wanted {
	return plate.Wanted{Wide: wide, Long: long, Worth: worth, X: to(0, 7), Y: to(0, 7)}
}

func turning(w plate.Wanted) plate.Wanted {
	w.Turn = true
	return w
}

func within(w plate.Wanted, x, y plate.Range) plate.Wanted {
	w.X, w.Y = x, y
	return w
}

func sheet(wide, long, saw int, wanted ...plate.Wanted) plate.Plate {
	return plate.Plate{Wide: wide, Long: long, Saw: saw, Wanted: wanted}
}

func piece(x, y, wide, long int) plate.Piece {
	return plate.Piece{X: x, Y: y, Wide: wide, Long: long}
}

func cut(piece, at int) plate.Cut    { return plate.Cut{Piece: piece, At: at} }
func across(piece, at int) plate.Cut { return plate.Cut{Piece: piece, Across: true, At: at} }

func cuts(list ...plate.Cut) []plate.Cut { return list }

func uses(pieces ...int) []int { return pieces }

func plan(cuts []plate.Cut, uses ...int) plate.Plan { return plate.Plan{Cuts: cuts, Uses: uses} }

// example is the plate of the chapter's section Examples, and examplePlan the plan that is weighed there.
func example() plate.Plate {
	return sheet(6, 4, 1, want(2, 4, 5), turning(want(3, 1, 4)), within(want(1, 3, 3), to(0, 2), to(0, 7)))
}

func examplePlan() plate.Plan { return plan(cuts(cut(0, 2), across(2, 1)), 1, 3, -1) }

// many returns so many cuts that can be done one by one of a plate of 8 by 8 with a saw without width.
func many(number int) []plate.Cut {
	var all []plate.Cut
	last := 0
	for n := range 7 {
		all = append(all, across(last, 1))
		last = 2 * (n + 1)
	}
	next := 2*len(all) + 1
	for row := range 8 {
		last = min(2*row+1, 14)
		for range 7 {
			all = append(all, cut(last, 1))
			last = next + 1
			next += 2
		}
	}
	return all[:number]
}

type badPlate struct {
	name string
	p    plate.Plate
	e    api.Errno
}

// badPlates are plates that are not valid, with their errors.
func badPlates() []badPlate {
	all := []badPlate{
		{"nothing", plate.Plate{}, api.ErrArg},
		{"five specimens", sheet(6, 4, 1, slices.Repeat([]plate.Wanted{want(1, 1, 1)}, 5)...), api.ErrLimit},
		{"five specimens that are not valid", sheet(6, 4, 1, make([]plate.Wanted, 5)...), api.ErrLimit},
		{"five specimens, and no size", sheet(0, 9, -1, make([]plate.Wanted, 5)...), api.ErrLimit},
		{"an empty specimen", sheet(6, 4, 1, plate.Wanted{}), api.ErrArg},
	}
	for _, n := range []int{0, -1, 9, math.MinInt, math.MaxInt} {
		all = append(all, badPlate{"width", sheet(n, 4, 1), api.ErrArg}, badPlate{"length", sheet(6, n, 1), api.ErrArg})
		all = append(all, badPlate{"a specimen's width", sheet(6, 4, 1, want(1, 1, 1), want(n, 1, 1)), api.ErrArg})
		all = append(all, badPlate{"a specimen's length", sheet(6, 4, 1, want(1, n, 1), want(1, 1, 1)), api.ErrArg})
	}
	for _, n := range []int{-1, 3, math.MinInt, math.MaxInt} {
		all = append(all, badPlate{"saw", sheet(6, 4, n), api.ErrArg})
	}
	for _, n := range []int{-1, 1001, math.MinInt, math.MaxInt} {
		all = append(all, badPlate{"worth", sheet(6, 4, 1, want(1, 1, n)), api.ErrArg})
	}
	for _, r := range []plate.Range{to(-1, 3), to(0, 8), to(3, 2), to(8, 8), to(-1, -1), to(9, 3), to(math.MinInt, math.MaxInt), to(math.MaxInt, math.MinInt)} {
		all = append(all, badPlate{"zone in x", sheet(6, 4, 1, within(want(1, 1, 1), r, to(0, 7))), api.ErrArg})
		all = append(all, badPlate{"zone in y", sheet(6, 4, 1, within(want(1, 1, 1), to(0, 7), r)), api.ErrArg})
	}
	return all
}

// P3.1
func TestCheckPlate(t *testing.T) {
	for _, x := range badPlates() {
		if e := plate.CheckPlate(x.p); e != x.e {
			t.Errorf("%s: CheckPlate of %v: %v", x.name, x.p, e)
		}
	}
	for _, p := range []plate.Plate{
		example(), sheet(1, 1, 0), sheet(8, 8, 2, []plate.Wanted{}...), sheet(1, 1, 2),
		sheet(8, 8, 2, slices.Repeat([]plate.Wanted{turning(want(8, 8, 1000))}, 4)...),
		// What can never be used is valid, too: larger than the plate, or its zone.
		sheet(1, 2, 1, want(8, 1, 0), within(want(1, 1, 0), to(7, 7), to(7, 7)), within(want(4, 4, 9), to(0, 0), to(3, 3))),
	} {
		if e := plate.CheckPlate(p); e != api.OK {
			t.Errorf("CheckPlate of %v: %v", p, e)
		}
	}
}

// P3.1
func TestPieces(t *testing.T) {
	for _, x := range []struct {
		name string
		p    plate.Plate
		cuts []plate.Cut
		want []plate.Piece
	}{
		{"the chapter's example", example(), examplePlan().Cuts, []plate.Piece{piece(0, 0, 6, 4), piece(0, 0, 2, 4), piece(3, 0, 3, 4), piece(3, 0, 3, 1), piece(3, 2, 3, 2)}},
		{"a piece 6 wide", sheet(6, 1, 1), cuts(cut(0, 2)), []plate.Piece{piece(0, 0, 6, 1), piece(0, 0, 2, 1), piece(3, 0, 3, 1)}},
		{"no cuts", example(), nil, []plate.Piece{piece(0, 0, 6, 4)}},
		{"no cuts", example(), cuts(), []plate.Piece{piece(0, 0, 6, 4)}},
		{"no first piece", sheet(6, 4, 1), cuts(cut(0, 0), across(1, 0)), []plate.Piece{piece(0, 0, 6, 4), piece(1, 0, 5, 4), piece(1, 1, 5, 3)}},
		{"no second piece", sheet(6, 4, 2), cuts(cut(0, 4), across(1, 2)), []plate.Piece{piece(0, 0, 6, 4), piece(0, 0, 4, 4), piece(0, 0, 4, 2)}},
		{"numbers behind a single new piece", sheet(6, 4, 1), cuts(across(0, 0), cut(1, 1), cut(3, 1)), []plate.Piece{piece(0, 0, 6, 4), piece(0, 1, 6, 3), piece(0, 1, 1, 3), piece(2, 1, 4, 3), piece(2, 1, 1, 3), piece(4, 1, 2, 3)}},
		{"an older piece last", sheet(6, 4, 0), cuts(cut(0, 3), across(2, 1), across(1, 3)), []plate.Piece{piece(0, 0, 6, 4), piece(0, 0, 3, 4), piece(3, 0, 3, 4), piece(3, 0, 3, 1), piece(3, 1, 3, 3), piece(0, 0, 3, 3), piece(0, 3, 3, 1)}},
		{"in two by a saw without width", sheet(2, 2, 0), cuts(cut(0, 1), across(1, 1)), []plate.Piece{piece(0, 0, 2, 2), piece(0, 0, 1, 2), piece(1, 0, 1, 2), piece(0, 0, 1, 1), piece(0, 1, 1, 1)}},
		{"the last unit", sheet(3, 1, 2), cuts(cut(0, 1)), []plate.Piece{piece(0, 0, 3, 1), piece(0, 0, 1, 1)}},
	} {
		if l, e := plate.Pieces(x.p, x.cuts); !slices.Equal(l, x.want) || e != api.OK {
			t.Errorf("%s: Pieces: %v, %v", x.name, l, e)
		}
	}
	for _, number := range []int{7, 40} {
		if l, e := plate.Pieces(sheet(8, 8, 0), many(number)); len(l) != 2*number+1 || e != api.OK {
			t.Errorf("Pieces of %d cuts: %v, %v", number, l, e)
		}
	}
}

// spoilt are cuts that cannot be done, each of a plate of 6 by 4.
func spoilt() []struct {
	saw  int
	cuts []plate.Cut
} {
	type bad = struct {
		saw  int
		cuts []plate.Cut
	}
	all := []bad{
		{1, cuts(cut(0, 6))}, {1, cuts(across(0, 4))}, {2, cuts(cut(0, 5))}, {2, cuts(across(0, 3))},
		{0, cuts(cut(0, 0))}, {0, cuts(cut(0, 6))}, {0, cuts(across(0, 0))}, {0, cuts(across(0, 4))}, {0, cuts(cut(0, 7))},
		{1, cuts(cut(1, 1))}, {1, cuts(cut(0, 2), cut(3, 1))}, {1, cuts(cut(0, 0), cut(2, 1))}, {1, cuts(cut(1, 1), cut(0, 1))},
		{1, cuts(cut(0, 2), cut(0, 1))}, {1, cuts(cut(0, 2), cut(2, 1), across(2, 1))},
		// A piece as wide as the saw, or less, leaves nothing.
		{1, cuts(cut(0, 1), cut(1, 0))}, {2, cuts(cut(0, 2), cut(1, 0))}, {2, cuts(cut(0, 1), cut(1, 0))},
		// The last cut alone.
		{1, cuts(cut(0, 2), across(2, 1), cut(1, 2))},
	}
	for _, n := range []int{-1, math.MinInt, math.MaxInt, math.MaxInt - 1} {
		all = append(all, bad{1, cuts(cut(n, 1))}, bad{1, cuts(cut(0, n))}, bad{2, cuts(across(0, n))}, bad{0, cuts(across(n, n))})
	}
	return all
}

// P3.1, P3.2, P3.3, P3.5 and R1, R2: with rows that begin with "all".
func TestCutErrors(t *testing.T) {
	ask := func(p plate.Plate, list []plate.Cut, want api.Errno) {
		t.Helper()
		x := plan(list, 99)
		if l, e := plate.Pieces(p, list); len(l) > 0 || e != want {
			t.Errorf("Pieces of %v by %v: %v, %v", p, list, l, e)
		}
		if w, e := plate.Weigh(p, x); w != (plate.Weights{}) || e != want {
			t.Errorf("Weigh of %v by %v: %v, %v", p, list, w, e)
		}
		if n, w, e := plate.Trace(p, x, -1, 99); n != 0 || w != 0 || e != want {
			t.Errorf("Trace of %v by %v: %d, %d, %v", p, list, n, w, e)
		}
		if plate.ProvePlan(p, x, 0, 99) || plate.ProvePlan(p, plan(list, slices.Repeat(uses(-1), len(p.Wanted))...), 0, 99) {
			t.Errorf("ProvePlan of %v by %v", p, list)
		}
	}
	for _, x := range badPlates() {
		for _, list := range [][]plate.Cut{nil, cuts(cut(0, -1)), make([]plate.Cut, 41)} {
			ask(x.p, list, x.e)
		}
		if y, n, e := plate.Best(x.p); len(y.Cuts)+len(y.Uses)+n > 0 || e != x.e {
			t.Errorf("%s: Best of %v: %v, %d, %v", x.name, x.p, y, n, e)
		}
	}
	for _, x := range spoilt() {
		ask(sheet(6, 4, x.saw), x.cuts, api.ErrSpoil)
	}
	ask(sheet(8, 8, 0), many(41), api.ErrLimit)
	ask(example(), make([]plate.Cut, 41), api.ErrLimit)
	ask(example(), slices.Repeat(cuts(cut(-1, -1)), 1000), api.ErrLimit)
}

// P3.2, and the errors of uses
func TestWeigh(t *testing.T) {
	list := examplePlan().Cuts
	corner := cuts(across(0, 3), cut(1, 4))
	for _, x := range []struct {
		name string
		x    plate.Plan
		want plate.Weights
		e    api.Errno
	}{
		{"the chapter's example", examplePlan(), plate.Weights{Specimens: 11, Remnants: 6, Chips: 7, Worth: 9}, api.OK},
		{"nothing used", plan(list, -1, -1, -1), plate.Weights{Remnants: 17, Chips: 7}, api.OK},
		{"no cut", plan(nil, -1, -1, -1), plate.Weights{Remnants: 24}, api.OK},
		{"turned", plan(corner, -1, 3, -1), plate.Weights{Specimens: 3, Remnants: 12, Chips: 9, Worth: 4}, api.OK},
		{"outside of its zone", plan(corner, -1, -1, 3), plate.Weights{}, api.ErrSpoil},
		{"no plan", plan(nil), plate.Weights{}, api.ErrRange},
		{"a use less", plan(list, 1, 3), plate.Weights{}, api.ErrRange},
		{"a use more", plan(list, 1, 3, -1, -1), plate.Weights{}, api.ErrRange},
		{"a piece that there is not", plan(list, 1, 5, -1), plate.Weights{}, api.ErrRange},
		{"below all pieces", plan(list, -2, 3, -1), plate.Weights{}, api.ErrRange},
		{"the least number", plan(list, 1, 3, math.MinInt), plate.Weights{}, api.ErrRange},
		{"the greatest number", plan(list, 1, 3, math.MaxInt), plate.Weights{}, api.ErrRange},
		{"no piece, behind one that is not right", plan(list, 2, 2, 5), plate.Weights{}, api.ErrRange},
		{"a piece that was cut", plan(list, 2, 3, -1), plate.Weights{}, api.ErrSpoil},
		{"just so, but cut on", plan(cuts(cut(0, 2), across(1, 0)), 1, -1, -1), plate.Weights{}, api.ErrSpoil},
		{"the whole plate, cut", plan(list, 0, -1, -1), plate.Weights{}, api.ErrSpoil},
		{"too long for it", plan(list, 4, -1, -1), plate.Weights{}, api.ErrSpoil},
		{"as many units of another form", plan(cuts(across(0, 2)), 1, -1, -1), plate.Weights{}, api.ErrSpoil},
		{"used twice", plan(list, 1, 1, -1), plate.Weights{}, api.ErrSpoil},
	} {
		if w, e := plate.Weigh(example(), x.x); w != x.want || e != x.e {
			t.Errorf("%s: Weigh of %v: %v, %v", x.name, x.x, w, e)
		}
		if plate.ProvePlan(example(), x.x, x.want.Worth, len(x.x.Cuts)) != (x.e == api.OK) {
			t.Errorf("%s: ProvePlan of %v", x.name, x.x)
		}
		if x.e == api.OK {
			continue
		}
		for _, at := range []int{0, -1} {
			if n, w, e := plate.Trace(example(), x.x, at, at); n != 0 || w != 0 || e != x.e {
				t.Errorf("%s: Trace of %v at %d: %d, %d, %v", x.name, x.x, at, n, w, e)
			}
		}
	}
}

// P3.2: how a specimen may lie in its piece.
func TestFits(t *testing.T) {
	// The piece 2 has the units from 3 to 5, and 0 to 1.
	p, list := sheet(6, 2, 1), cuts(cut(0, 2))
	for _, x := range []struct {
		name string
		w    plate.Wanted
		fits bool
	}{
		{"just so", want(3, 2, 7), true},
		{"turned", turning(want(2, 3, 7)), true},
		{"may be turned, is not", turning(want(3, 2, 7)), true},
		{"must not be turned", want(2, 3, 7), false},
		{"narrower", want(2, 2, 7), false},
		{"shorter", turning(want(3, 1, 7)), false},
		{"wider", want(4, 2, 7), false},
		{"as many units", turning(want(6, 1, 7)), false},
		{"just its zone", within(want(3, 2, 7), to(3, 5), to(0, 1)), true},
		{"turned, just its zone", within(turning(want(2, 3, 7)), to(3, 5), to(0, 1)), true},
		{"out of its zone on the left", within(want(3, 2, 7), to(4, 7), to(0, 7)), false},
		{"out of its zone on the right", within(want(3, 2, 7), to(0, 4), to(0, 7)), false},
		{"out of its zone below", within(want(3, 2, 7), to(0, 7), to(1, 7)), false},
		{"out of its zone above", within(want(3, 2, 7), to(0, 7), to(0, 0)), false},
		{"far out of its zone", within(want(3, 2, 7), to(0, 7), to(5, 7)), false},
	} {
		p.Wanted = []plate.Wanted{x.w}
		w, e := plate.Weigh(p, plan(list, 2))
		if x.fits && (w != plate.Weights{Specimens: 6, Remnants: 4, Chips: 2, Worth: 7} || e != api.OK) {
			t.Errorf("%s: Weigh: %v, %v", x.name, w, e)
		}
		if !x.fits && (w != plate.Weights{} || e != api.ErrSpoil) {
			t.Errorf("%s: Weigh: %v, %v", x.name, w, e)
		}
	}
}

// P3.3
func TestTrace(t *testing.T) {
	for _, x := range []struct {
		x, y, piece, wanted int
		e                   api.Errno
	}{
		{0, 0, 1, 0, api.OK}, {1, 3, 1, 0, api.OK}, {2, 0, plate.Chips, -1, api.OK}, {2, 3, plate.Chips, -1, api.OK},
		{3, 0, 3, 1, api.OK}, {4, 0, 3, 1, api.OK}, {5, 0, 3, 1, api.OK}, {4, 1, plate.Chips, -1, api.OK}, {3, 2, 4, -1, api.OK}, {5, 3, 4, -1, api.OK},
		{6, 0, 0, 0, api.ErrRange}, {0, 4, 0, 0, api.ErrRange}, {-1, 0, 0, 0, api.ErrRange}, {0, -1, 0, 0, api.ErrRange}, {math.MaxInt, math.MinInt, 0, 0, api.ErrRange},
	} {
		if n, w, e := plate.Trace(example(), examplePlan(), x.x, x.y); n != x.piece || w != x.wanted || e != x.e {
			t.Errorf("Trace of %d, %d: %d, %d, %v", x.x, x.y, n, w, e)
		}
	}
	p := sheet(2, 2, 0, want(1, 1, 0), want(2, 2, 0))
	if n, w, e := plate.Trace(p, plan(nil, -1, 0), 1, 1); n != 0 || w != 1 || e != api.OK {
		t.Errorf("Trace of the whole plate: %d, %d, %v", n, w, e)
	}
	if n, w, e := plate.Trace(p, plan(nil, -1, -1), 0, 0); n != 0 || w != -1 || e != api.OK {
		t.Errorf("Trace of the whole plate that is not used: %d, %d, %v", n, w, e)
	}
}

// P3.4
func TestBest(t *testing.T) {
	two, four := want(2, 1, 7), slices.Repeat([]plate.Wanted{want(1, 1, 1000)}, 4)
	for _, x := range []struct {
		name        string
		p           plate.Plate
		worth, cuts int
	}{
		{"the chapter's example", example(), 12, 3},
		{"nothing wanted", sheet(5, 5, 1), 0, 0},
		{"the whole plate", sheet(3, 2, 2, want(3, 2, 7)), 7, 0},
		{"the whole plate, turned", sheet(2, 3, 2, turning(want(3, 2, 7))), 7, 0},
		{"must not be turned", sheet(2, 3, 2, want(3, 2, 7)), 0, 0},
		{"of no worth", sheet(5, 5, 1, want(1, 1, 0), want(5, 5, 0)), 0, 0},
		{"of no worth beside one that has some", sheet(5, 1, 1, want(1, 1, 0), want(2, 1, 1)), 1, 1},
		{"less beside it than the saw", sheet(3, 1, 2, two), 0, 0},
		{"as much beside it as the saw", sheet(4, 1, 2, two), 7, 1},
		{"more beside it than the saw", sheet(5, 1, 2, two), 7, 1},
		{"a saw without width", sheet(3, 1, 0, two), 7, 1},
		{"one is worth more than two", sheet(5, 1, 1, want(3, 1, 5), want(2, 1, 4), want(2, 1, 3)), 7, 1},
		{"and less", sheet(5, 1, 1, want(3, 1, 9), want(2, 1, 4), want(2, 1, 4)), 9, 1},
		{"fewer cuts for as much", sheet(6, 6, 1, want(3, 3, 4), want(6, 6, 8), want(2, 2, 4)), 8, 0},
		{"four, by three cuts and one for the rest", sheet(8, 1, 0, four...), 4000, 4},
		{"four, and nothing else", sheet(4, 1, 0, four...), 4000, 3},
		{"two by two", sheet(2, 2, 0, four...), 4000, 3},
		{"two by two, with chips between them", sheet(4, 4, 2, four...), 4000, 3},
		{"each of four free on all sides", sheet(7, 7, 1,
			within(want(1, 1, 1), to(1, 1), to(1, 1)), within(want(1, 1, 1), to(5, 5), to(1, 1)),
			within(want(1, 1, 1), to(1, 1), to(5, 5)), within(want(1, 1, 1), to(5, 5), to(5, 5))), 4, 10},
		// Around the unit in the middle four pieces lie, each from one side on: no cut goes through all of them.
		{"a windmill", sheet(3, 3, 0,
			within(want(2, 1, 1), to(0, 1), to(0, 0)), within(want(1, 2, 1), to(2, 2), to(0, 1)),
			within(want(2, 1, 1), to(1, 2), to(2, 2)), within(want(1, 2, 1), to(0, 0), to(1, 2))), 3, 4},
	} {
		y, n, e := plate.Best(x.p)
		if n != x.worth || len(y.Cuts) != x.cuts || e != api.OK {
			t.Errorf("%s: Best of %v: %v, %d, %v", x.name, x.p, y, n, e)
		}
		if w, e := plate.Weigh(x.p, y); w.Worth != x.worth || e != api.OK {
			t.Errorf("%s: %v weighs %v, %v", x.name, y, w, e)
		}
		if !plate.ProvePlan(x.p, y, x.worth, x.cuts) {
			t.Errorf("%s: ProvePlan of %v", x.name, y)
		}
	}
}

// P3.5, R11
func TestProvePlan(t *testing.T) {
	long := plan(many(40), -1)
	longer := plan(many(41), -1)
	for _, x := range []struct {
		name        string
		p           plate.Plate
		x           plate.Plan
		worth, cuts int
		want        bool
	}{
		{"just so", example(), examplePlan(), 9, 2, true},
		{"worth more", example(), examplePlan(), 8, 3, true},
		{"worth less", example(), examplePlan(), 10, 2, false},
		{"more cuts", example(), examplePlan(), 9, 1, false},
		{"any worth", example(), examplePlan(), math.MinInt, math.MaxInt, true},
		{"no worth", example(), examplePlan(), math.MaxInt, math.MaxInt, false},
		{"below 0 cuts", example(), plan(nil, -1, -1, -1), 0, -1, false},
		{"nothing", example(), plan(nil, -1, -1, -1), 0, 0, true},
		{"no uses", example(), plan(nil), 0, 9, false},
		{"nothing wanted", sheet(6, 4, 1), plate.Plan{}, 0, 0, true},
		{"the chapter's best", example(), plan(cuts(cut(0, 3), across(1, 3), cut(3, 1)), 2, 5, 4), 12, 3, true},
		{"one of two equal ones", sheet(6, 4, 1, want(2, 4, 5), want(2, 4, 5)), plan(cuts(cut(0, 2)), -1, 1), 5, 1, true},
		{"one piece as two equal ones", sheet(6, 4, 1, want(2, 4, 5), want(2, 4, 5)), plan(cuts(cut(0, 2)), 1, 1), 5, 1, false},
		{"not to be done", example(), plan(cuts(cut(0, 6)), -1, -1, -1), 0, 9, false},
		{"40 cuts", sheet(8, 8, 0, want(1, 1, 1)), long, 0, 40, true},
		{"41 cuts", sheet(8, 8, 0, want(1, 1, 1)), longer, 0, 50, false},
	} {
		if plate.ProvePlan(x.p, x.x, x.worth, x.cuts) != x.want {
			t.Errorf("%s: ProvePlan of %v, %d, %d", x.name, x.x, x.worth, x.cuts)
		}
	}
}

// R4
func TestMemory(t *testing.T) {
	p, x := example(), examplePlan()
	type results struct {
		pieces []plate.Piece
		best   plate.Plan
	}
	call := func() results {
		var all results
		all.pieces, _ = plate.Pieces(p, x.Cuts)
		all.best, _, _ = plate.Best(p)
		plate.Weigh(p, x)
		plate.Trace(p, x, 1, 1)
		plate.ProvePlan(p, x, 9, 2)
		return all
	}
	first, second := call(), call()
	for i := range first.pieces[:cap(first.pieces)] {
		first.pieces[:cap(first.pieces)][i] = piece(-7, -7, -7, -7)
	}
	for i := range first.best.Cuts {
		first.best.Cuts[i] = cut(-7, -7)
	}
	for i := range first.best.Uses {
		first.best.Uses[i] = -7
	}
	if !reflect.DeepEqual(second, call()) {
		t.Errorf("after results were written to: %v", second)
	}
	if !reflect.DeepEqual(p, example()) || !reflect.DeepEqual(x, examplePlan()) {
		t.Errorf("arguments were written to: %v, %v", p, x)
	}
}
