package plate_test

import (
	"iter"
	"math"
	"math/rand/v2"
	"slices"
	"testing"

	"tensile/api"
	"tensile/plate"
)

// plates brings plates with sides of at most that, and one to four specimens, the same ones each time.
func plates(number, side int) iter.Seq2[*rand.Rand, plate.Plate] {
	return func(bring func(*rand.Rand, plate.Plate) bool) {
		dice := rand.New(rand.NewPCG(8, uint64(side)))
		for range number {
			p := anyPlate(dice, side)
			if len(p.Wanted) == 0 {
				p.Wanted = []plate.Wanted{anyWanted(dice, min(side, 7))}
			}
			if !bring(dice, p) {
				return
			}
		}
	}
}

// worthAndCuts returns those of a best plan, which is weighed.
func worthAndCuts(t *testing.T, p plate.Plate) (worth, cuts int) {
	t.Helper()
	x, worth, e := plate.Best(p)
	if w, f := plate.Weigh(p, x); e != api.OK || f != api.OK || w.Worth != worth {
		t.Fatalf("Best of %v: %v, %d, %v; it weighs %v, %v", p, x, worth, e, w, f)
	}
	return worth, len(x.Cuts)
}

// changed returns the plate with other specimens, or with those that are changed one by one.
func changed(p plate.Plate, change func(w *plate.Wanted)) plate.Plate {
	p.Wanted = slices.Clone(p.Wanted)
	for i := range p.Wanted {
		change(&p.Wanted[i])
	}
	return p
}

// P3.6
func TestEveryUnit(t *testing.T) {
	plans := 0
	for j := range rightJobs(3000) {
		all, _ := plate.Pieces(j.p, j.x.Cuts)
		var isCut [2*api.MaxPlateCuts + 1]bool
		for _, c := range j.x.Cuts {
			isCut[c.Piece] = true
		}
		var sum plate.Weights
		for _, u := range unitsOf(all[0]) {
			var owners []int
			for n, it := range all {
				if !isCut[n] && slices.Contains(unitsOf(it), u) {
					owners = append(owners, n)
				}
			}
			n, s, e := plate.Trace(j.p, j.x, u.x, u.y)
			switch {
			case e != api.OK || len(owners) > 1 || len(owners) == 1 != (n != plate.Chips) || n != plate.Chips && n != owners[0]:
				t.Fatalf("Trace of %v at %v: %d, %d, %v; of the pieces %v", j, u, n, s, e, owners)
			case n == plate.Chips:
				sum.Chips++
			case s == -1:
				sum.Remnants++
			default:
				sum.Specimens++
				w := j.p.Wanted[s]
				if j.x.Uses[s] != n || u.x < w.X.Lo || u.x > w.X.Hi || u.y < w.Y.Lo || u.y > w.Y.Hi {
					t.Fatalf("%v of %v is used as %d", u, j, s)
				}
			}
		}
		w, e := plate.Weigh(j.p, j.x)
		sum.Worth = w.Worth
		if w != sum || e != api.OK || w.Specimens+w.Remnants+w.Chips != j.p.Wide*j.p.Long {
			t.Fatalf("Weigh of %v: %v, %v; by its units %v", j, w, e, sum)
		}
		plans++
	}
	if plans < 1000 {
		t.Errorf("%d plans", plans)
	}
}

// P3.7: no plan that is made at random is better, and none has what the best one is told to be beyond.
func TestNoneIsBetter(t *testing.T) {
	best, as := 0, 0
	for j := range rightJobs(600) {
		w, _ := plate.Weigh(j.p, j.x)
		worth, cuts := worthAndCuts(t, j.p)
		if w.Worth > worth || w.Worth == worth && len(j.x.Cuts) < cuts {
			t.Fatalf("%v weighs %v; the best is worth %d, by %d cuts", j, w, worth, cuts)
		}
		if plate.ProvePlan(j.p, j.x, worth+1, math.MaxInt) || plate.ProvePlan(j.p, j.x, worth, cuts-1) {
			t.Fatalf("ProvePlan of %v above the best", j)
		}
		if worth > 0 {
			best++
		}
		if w.Worth == worth {
			as++
		}
	}
	if best < 100 || as < 50 {
		t.Errorf("%d plates with a worth, %d plans as good", best, as)
	}
}

// easier brings plates whose best plan must not be worth less, each with what is easier.
func easier(dice *rand.Rand, p plate.Plate) iter.Seq2[string, plate.Plate] {
	i := dice.IntN(len(p.Wanted))
	one := func(change func(w *plate.Wanted)) plate.Plate {
		at := 0
		return changed(p, func(w *plate.Wanted) {
			if at == i {
				change(w)
			}
			at++
		})
	}
	return func(bring func(string, plate.Plate) bool) {
		narrower, wider, longer, more := p, p, p, p
		narrower.Saw = max(0, p.Saw-1)
		wider.Wide += max(1, p.Saw)
		longer.Long += max(1, p.Saw)
		if len(p.Wanted) < api.MaxPlateWanted {
			more.Wanted = append(slices.Clone(p.Wanted), anyWanted(dice, 4))
		}
		zone := func(r *plate.Range) { *r = to(r.Lo-dice.IntN(r.Lo+1), r.Hi+dice.IntN(8-r.Hi)) }
		for name, q := range map[string]plate.Plate{
			"a narrower saw": narrower,
			"a wider plate":  wider,
			"a longer plate": longer,
			"one more":       more,
			"a wider zone":   one(func(w *plate.Wanted) { zone(&w.X); zone(&w.Y) }),
			"may be turned":  one(func(w *plate.Wanted) { w.Turn = true }),
			"worth more":     one(func(w *plate.Wanted) { w.Worth += dice.IntN(5) }),
		} {
			if !bring(name, q) {
				return
			}
		}
	}
}

// P3.8
func TestEasier(t *testing.T) {
	gains := map[string]int{}
	for dice, p := range plates(400, 6) {
		worth, _ := worthAndCuts(t, p)
		for name, q := range easier(dice, p) {
			more, _ := worthAndCuts(t, q)
			if more < worth {
				t.Fatalf("with %s: Best of %v is worth %d, of %v %d", name, q, more, p, worth)
			}
			if more > worth {
				gains[name]++
			}
		}
	}
	if len(gains) < 7 {
		t.Errorf("gains by %v alone", gains)
	}
}

// exchanged returns the plate with width for length.
func exchanged(p plate.Plate) plate.Plate {
	p.Wide, p.Long = p.Long, p.Wide
	return changed(p, func(w *plate.Wanted) {
		w.Wide, w.Long, w.X, w.Y = w.Long, w.Wide, w.Y, w.X
	})
}

// turnedOver returns the plate with its sides in the direction of x exchanged. Specimens whose zones do not lie on it are left out.
func turnedOver(p plate.Plate) plate.Plate {
	last := p.Wide - 1
	p = changed(p, func(w *plate.Wanted) { w.X = to(max(0, last-w.X.Hi), last-w.X.Lo) })
	p.Wanted = slices.DeleteFunc(p.Wanted, func(w plate.Wanted) bool { return w.X.Hi < 0 })
	return p
}

// P3.9, P3.12
func TestTurnedAndMixed(t *testing.T) {
	used := 0
	same := func(p, q plate.Plate) {
		t.Helper()
		worth, cuts := worthAndCuts(t, p)
		if n, m := worthAndCuts(t, q); n != worth || m != cuts {
			t.Fatalf("Best of %v is worth %d, by %d cuts; of %v %d, by %d", p, worth, cuts, q, n, m)
		}
		used += cuts
	}
	try := func(dice *rand.Rand, p plate.Plate) {
		t.Helper()
		same(p, exchanged(p))
		same(p, turnedOver(p))
		same(p, exchanged(turnedOver(exchanged(p))))
		mixed := p
		mixed.Wanted = slices.Clone(p.Wanted)
		dice.Shuffle(len(mixed.Wanted), func(i, j int) {
			mixed.Wanted[i], mixed.Wanted[j] = mixed.Wanted[j], mixed.Wanted[i]
		})
		same(p, mixed)
	}
	for dice, p := range plates(300, 6) {
		try(dice, p)
	}
	for dice, p := range plates(20, 8) {
		try(dice, p)
	}
	if used == 0 {
		t.Error("no best plan has cuts")
	}
}

// without returns the uses without those of some pieces.
func without(list []int, out func(piece int) bool) []int {
	list = slices.Clone(list)
	for i, n := range list {
		if out(n) {
			list[i] = -1
		}
	}
	return list
}

// P3.10
func TestOneByOne(t *testing.T) {
	for j := range rightJobs(2000) {
		for i, c := range j.x.Cuts {
			before, _ := plate.Pieces(j.p, j.x.Cuts[:i])
			behind, _ := plate.Pieces(j.p, j.x.Cuts[:i+1])
			added := len(behind) - len(before)
			if added < 1 || added > 2 || !slices.Equal(behind[:len(before)], before) {
				t.Fatalf("cut %d of %v: %v, and then %v", i, j, before, behind)
			}
			// What is used behind the cut, and was there before it.
			list := without(j.x.Uses, func(n int) bool {
				return n >= len(before) || slices.ContainsFunc(j.x.Cuts[:i+1], func(c plate.Cut) bool { return c.Piece == n })
			})
			v, e := plate.Weigh(j.p, plate.Plan{Cuts: j.x.Cuts[:i], Uses: list})
			w, f := plate.Weigh(j.p, plate.Plan{Cuts: j.x.Cuts[:i+1], Uses: list})
			other := before[c.Piece].Long
			if c.Across {
				other = before[c.Piece].Wide
			}
			lost := j.p.Saw * other
			v.Chips, v.Remnants = v.Chips+lost, v.Remnants-lost
			if v != w || e != api.OK || f != api.OK {
				t.Fatalf("cut %d of %v: %v, %v, not %v, %v", i, j, w, f, v, e)
			}
		}
	}
}

// cutsAlone returns how many cuts leave the specimen at a place alone, or that none do.
func cutsAlone(p plate.Plate, it plate.Piece) (cuts int, fine bool) {
	for _, free := range []int{it.X, it.Y, p.Wide - it.X - it.Wide, p.Long - it.Y - it.Long} {
		if free != 0 && free < max(1, p.Saw) {
			return 0, false
		}
		if free != 0 {
			cuts++
		}
	}
	return cuts, true
}

// P3.11, P3.7: also how many cuts it needs.
func TestAlone(t *testing.T) {
	var done, not int
	dice := rand.New(rand.NewPCG(11, 1))
	for range 6000 {
		p := sheet(1+dice.IntN(8), 1+dice.IntN(8), dice.IntN(3), anyWanted(dice, 7))
		p.Wanted[0].Worth = 1 + dice.IntN(1000)
		fewest, some := 99, false
		for _, u := range unitsOf(piece(0, 0, p.Wide, p.Long)) {
			w := p.Wanted[0]
			for range 2 {
				it := piece(u.x, u.y, w.Wide, w.Long)
				w.Wide, w.Long = w.Long, w.Wide
				if it.X+it.Wide > p.Wide || it.Y+it.Long > p.Long || !isRight(p.Wanted[0], unitsOf(it)) {
					continue
				}
				if cuts, fine := cutsAlone(p, it); fine {
					fewest, some = min(fewest, cuts), true
				}
			}
		}
		worth, cuts := worthAndCuts(t, p)
		if some && (worth != p.Wanted[0].Worth || cuts != fewest) || !some && worth+cuts > 0 {
			t.Fatalf("Best of %v: %d, by %d cuts; %d are the fewest", p, worth, cuts, fewest)
		}
		if some {
			done++
		} else {
			not++
		}
	}
	if done < 500 || not < 500 {
		t.Errorf("%d are used, %d are not", done, not)
	}
}

// P3.4, P4: a plate of the greatest size with four small specimens, of which the most tasks come.
func TestBestIsFound(t *testing.T) {
	for saw := range api.MaxPlateSaw + 1 {
		p := sheet(8, 8, saw, turning(want(1, 1, 1)), turning(want(1, 2, 1)), turning(want(2, 1, 1)), turning(want(1, 3, 1)))
		if worth, cuts := worthAndCuts(t, p); worth != 4 || cuts > 5 {
			t.Errorf("saw %d: worth %d, by %d cuts", saw, worth, cuts)
		}
	}
}

// P1
func TestAnyArguments(t *testing.T) {
	dice := rand.New(rand.NewPCG(1, 1))
	wild := func() int {
		return []int{math.MinInt, math.MaxInt, -2, -1, 0, 1, 2, 3, 7, 8, 9, 1000, 1001}[dice.IntN(13)]
	}
	rarely := func(n int) int {
		if dice.IntN(12) == 0 {
			return wild()
		}
		return n
	}
	for range 20000 {
		p := anyPlate(dice, 4)
		p.Wide, p.Long, p.Saw = rarely(p.Wide), rarely(p.Long), rarely(p.Saw)
		p = changed(p, func(w *plate.Wanted) {
			w.Wide, w.Worth, w.X.Lo, w.Y.Hi = rarely(w.Wide), rarely(w.Worth), rarely(w.X.Lo), rarely(w.Y.Hi)
		})
		var x plate.Plan
		for range dice.IntN(4) {
			x.Cuts = append(x.Cuts, plate.Cut{Piece: rarely(dice.IntN(3)), Across: dice.IntN(2) == 0, At: rarely(dice.IntN(3))})
		}
		for range len(p.Wanted) {
			x.Uses = append(x.Uses, rarely(-1))
		}
		plate.CheckPlate(p)
		plate.Pieces(p, x.Cuts)
		plate.Weigh(p, x)
		plate.Trace(p, x, wild(), wild())
		plate.Best(p)
		plate.ProvePlan(p, x, wild(), wild())
	}
}
