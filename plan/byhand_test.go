package plan_test

import (
	"cmp"
	"iter"
	"math/big"
	"math/bits"
	"math/rand/v2"
	"slices"
	"testing"

	"tensile/api"
	"tensile/plan"
)

// The functions of this file say word for word what the chapter's definitions do.

func isPlan(p plan.Plan) bool {
	if p.Lot < 1 || p.Lot > 30 || len(p.Stages) < 1 || len(p.Stages) > 3 {
		return false
	}
	taken := 0
	for i, s := range p.Stages {
		taken += s.Take
		if s.Take < 1 || taken > p.Lot || s.Accept < -1 || s.Reject <= s.Accept || s.Reject > taken+1 {
			return false
		}
		if i > 0 && (s.Accept < p.Stages[i-1].Accept || s.Reject < p.Stages[i-1].Reject) {
			return false
		}
		if i == len(p.Stages)-1 && s.Reject != s.Accept+1 {
			return false
		}
	}
	return true
}

// plans brings all of a lot of so many stages.
func plans(lot, stages int) iter.Seq[plan.Plan] {
	return func(bring func(plan.Plan) bool) {
		var goOn func(begun []plan.Stage, taken int) bool
		goOn = func(begun []plan.Stage, taken int) bool {
			if len(begun) == stages {
				p := of(lot, slices.Clone(begun)...)
				return !isPlan(p) || bring(p)
			}
			for take := 1; taken+take <= lot; take++ {
				for accept := -1; accept <= taken+take; accept++ {
					for reject := accept + 1; reject <= taken+take+1; reject++ {
						if !goOn(append(begun, st(take, accept, reject)), taken+take) {
							return false
						}
					}
				}
			}
			return true
		}
		goOn(nil, 0)
	}
}

// draws returns all draws of a plan: the pieces of each stage, as bits.
func draws(p plan.Plan) [][]uint {
	all := [][]uint{nil}
	for _, s := range p.Stages {
		var longer [][]uint
		for _, draw := range all {
			var taken uint
			for _, pieces := range draw {
				taken |= pieces
			}
			for pieces := range uint(1) << p.Lot {
				if bits.OnesCount(pieces) == s.Take && pieces&taken == 0 {
					longer = append(longer, append(slices.Clone(draw), pieces))
				}
			}
		}
		all = longer
	}
	return all
}

// byPlan tells whether a lot is accepted by a draw, and how many pieces are taken.
func byPlan(p plan.Plan, draw []uint, badOnes uint) (accepted bool, pieces int) {
	found := 0
	for i, s := range p.Stages {
		pieces += s.Take
		found += bits.OnesCount(draw[i] & badOnes)
		if found <= s.Accept {
			return true, pieces
		}
		if found >= s.Reject {
			return false, pieces
		}
	}
	panic("open behind all stages")
}

// tally is counted over so many draws.
type tally struct{ accepted, pieces, of int }

func (c *tally) add(accepted bool, pieces int) {
	if accepted {
		c.accepted++
	}
	c.pieces += pieces
	c.of++
}

func lowest(r *big.Rat) plan.Fraction { return over(int(r.Num().Int64()), int(r.Denom().Int64())) }

func (c tally) chance() plan.Fraction { return lowest(big.NewRat(int64(c.accepted), int64(c.of))) }
func (c tally) mean() plan.Fraction   { return lowest(big.NewRat(int64(c.pieces), int64(c.of))) }

// byAllDraws counts them, for bad pieces as bits.
func byAllDraws(p plan.Plan, all [][]uint, badOnes uint) tally {
	var c tally
	for _, draw := range all {
		c.add(byPlan(p, draw, badOnes))
	}
	return c
}

// byAllLots counts, for each number of bad pieces, which ones they may be, while the draw is always that of the first pieces.
func byAllLots(p plan.Plan) []tally {
	all := make([]tally, p.Lot+1)
	var draw []uint
	taken := 0
	for _, s := range p.Stages {
		draw = append(draw, (uint(1)<<s.Take-1)<<taken)
		taken += s.Take
	}
	for badOnes := range uint(1) << p.Lot {
		all[bits.OnesCount(badOnes)].add(byPlan(p, draw, badOnes))
	}
	return all
}

// byPieces takes one piece after the other, each of which is bad by the fraction of bad ones that are left.
func byPieces(p plan.Plan, number int) (chance, mean plan.Fraction) {
	accepted, pieces := new(big.Rat), new(big.Rat)
	open := map[int]*big.Rat{0: big.NewRat(1, 1)} // by how many were bad
	taken := 0
	for _, s := range p.Stages {
		for range s.Take {
			further := map[int]*big.Rat{}
			for found, by := range open {
				addTo(further, found+1, by, number-found, p.Lot-taken)
				addTo(further, found, by, p.Lot-taken-number+found, p.Lot-taken)
			}
			open = further
			taken++
		}
		for found, by := range open {
			if found <= s.Accept {
				accepted.Add(accepted, by)
			} else if found < s.Reject {
				continue
			}
			pieces.Add(pieces, new(big.Rat).Mul(by, big.NewRat(int64(taken), 1)))
			delete(open, found)
		}
	}
	return lowest(accepted), lowest(pieces)
}

func addTo(all map[int]*big.Rat, found int, by *big.Rat, num, den int) {
	if num == 0 {
		return
	}
	if all[found] == nil {
		all[found] = new(big.Rat)
	}
	all[found].Add(all[found], new(big.Rat).Mul(by, big.NewRat(int64(num), int64(den))))
}

func between(dice *rand.Rand, low, high int) int { return low + dice.IntN(high-low+1) }

// randomPlan returns one of a lot, of at most so many stages.
func randomPlan(dice *rand.Rand, lot, stages int) plan.Plan {
	p := of(lot)
	many := between(dice, 1, min(stages, lot))
	taken, before := 0, st(0, -1, 0)
	for i := range many {
		last := i == many-1
		most := lot - taken - (many - 1 - i)
		take := between(dice, 1, most)
		if dice.IntN(2) == 0 {
			take = between(dice, 1, min(most, lot/many+1))
		}
		taken += take
		s := st(take, between(dice, before.Accept, min(taken, before.Accept+3)), 0)
		s.Reject = between(dice, max(s.Accept+1, before.Reject), taken+1)
		if last {
			s.Accept = between(dice, max(before.Accept, before.Reject-1), taken)
			s.Reject = s.Accept + 1
		}
		p.Stages = append(p.Stages, s)
		before = s
	}
	return p
}

// some brings plans of lots up to one, the same ones each time.
func some(number, most int) iter.Seq2[*rand.Rand, plan.Plan] {
	return func(bring func(*rand.Rand, plan.Plan) bool) {
		dice := rand.New(rand.NewPCG(9, uint64(most)))
		for range number {
			if !bring(dice, randomPlan(dice, between(dice, 1, most), 3)) {
				return
			}
		}
	}
}

// counts of what was met with.
type counts map[string]int

func (k counts) areLess(t *testing.T, than int, each ...string) {
	t.Helper()
	for _, x := range each {
		if k[x] < than {
			t.Errorf("%v", k)
		}
	}
}

func chanceOf(t *testing.T, p plan.Plan, number int) plan.Fraction {
	t.Helper()
	f, e := plan.Chance(p, number)
	if e != api.OK {
		t.Fatalf("Chance of %v for %d: %v", p, number, e)
	}
	return f
}

func meanOf(t *testing.T, p plan.Plan, number int) plan.Fraction {
	t.Helper()
	f, e := plan.Mean(p, number)
	if e != api.OK {
		t.Fatalf("Mean of %v for %d: %v", p, number, e)
	}
	return f
}

func isRisk(t *testing.T, p plan.Plan, number int, chance, mean plan.Fraction) {
	t.Helper()
	if c, m := chanceOf(t, p, number), meanOf(t, p, number); c != chance || m != mean {
		t.Fatalf("%v for %d: %v, %v, not %v, %v", p, number, c, m, chance, mean)
	}
}

// P9.1: numbers around those of plans.
func TestCheckPlanByHand(t *testing.T) {
	dice := rand.New(rand.NewPCG(9, 1))
	k := counts{}
	for range 200000 {
		p := randomPlan(dice, between(dice, 1, 12), 3)
		for range dice.IntN(3) {
			s := &p.Stages[dice.IntN(len(p.Stages))]
			by := between(dice, -2, 2)
			switch dice.IntN(5) {
			case 0:
				s.Take += by
			case 1:
				s.Accept += by
			case 2:
				s.Reject += by
			case 3:
				p.Lot += by
			case 4:
				s.Accept, s.Reject = s.Accept+by, s.Reject+by
			}
		}
		want := api.OK
		if !isPlan(p) {
			want = api.ErrArg
		}
		if e := plan.CheckPlan(p); e != want {
			t.Fatalf("CheckPlan of %v: %v", p, e)
		}
		k[want.Error()]++
	}
	k.areLess(t, 20000, api.OK.Error(), api.ErrArg.Error())
}

// P9.1, P9.2, P9.6: all plans of small lots, by all draws, whichever pieces are bad.
func TestByAllDraws(t *testing.T) {
	many := 0
	for lot := 1; lot <= 5; lot++ {
		for stages := 1; stages <= 3; stages++ {
			for p := range plans(lot, stages) {
				all := draws(p)
				for badOnes := range uint(1) << lot {
					c := byAllDraws(p, all, badOnes)
					isRisk(t, p, bits.OnesCount(badOnes), c.chance(), c.mean())
				}
				many++
			}
		}
	}
	if many < 4000 {
		t.Error(many)
	}
}

// P9.1, P9.2, P9.6
func TestSomeByAllDraws(t *testing.T) {
	for dice, p := range some(2000, 8) {
		all := draws(p)
		for range 3 {
			badOnes := uint(dice.IntN(1 << p.Lot))
			c := byAllDraws(p, all, badOnes)
			isRisk(t, p, bits.OnesCount(badOnes), c.chance(), c.mean())
		}
	}
}

// P9.1, P9.2
func TestByAllLots(t *testing.T) {
	for _, p := range some(1000, 13) {
		for number, c := range byAllLots(p) {
			isRisk(t, p, number, c.chance(), c.mean())
		}
	}
}

// P9.1, P9.2: lots of all sizes.
func TestByPieces(t *testing.T) {
	for number := range 31 {
		chance, mean := byPieces(full(), number)
		isRisk(t, full(), number, chance, mean)
	}
	for dice, p := range some(4000, 30) {
		number := dice.IntN(p.Lot + 1)
		chance, mean := byPieces(p, number)
		isRisk(t, p, number, chance, mean)
	}
}

// played returns what Play should do: it asks of each stage whether it is whole, and decides.
func played(p plan.Plan, results []bool) (verdict uint8, pieces int, e api.Errno) {
	taken := 0
	for _, s := range p.Stages {
		taken += s.Take
		if len(results) < taken {
			return plan.Open, taken - len(results), api.OK
		}
		found := 0
		for _, is := range results[:taken] {
			if is {
				found++
			}
		}
		switch {
		case found > s.Accept && found < s.Reject:
		case len(results) > taken:
			return 0, 0, api.ErrRange
		case found <= s.Accept:
			return plan.Accepted, 0, api.OK
		default:
			return plan.Rejected, 0, api.OK
		}
	}
	panic("open behind all stages")
}

// P9.3
func TestPlayByHand(t *testing.T) {
	k := counts{}
	for dice, p := range some(20000, 12) {
		results := make([]bool, dice.IntN(p.Lot+2))
		rarity := between(dice, 1, 5)
		for i := range results {
			results[i] = dice.IntN(rarity) == 0
		}
		v, n, e := plan.Play(p, results)
		if verdict, pieces, want := played(p, results); v != verdict || n != pieces || e != want {
			t.Fatalf("Play of %v, %v: %d, %d, %v, not %d, %d, %v", p, results, v, n, e, verdict, pieces, want)
		}
		k[[]string{"too many", "accepted", "rejected", "open"}[v]]++
	}
	k.areLess(t, 1000, "accepted", "rejected", "open", "too many")
}

// isKept asks for the thousandths of a demand by the tallies for its Good and its Bad.
func isKept(d plan.Demand, all []tally) bool {
	g, b := all[d.Good], all[d.Bad]
	return 1000*g.accepted >= (1000-d.Alpha)*g.of && 1000*b.accepted <= d.Beta*b.of
}

// thousandths returns a risk; often one that is easily met, or none at all.
func thousandths(dice *rand.Rand) int {
	return []int{0, dice.IntN(1001), dice.IntN(1001), dice.IntN(300), 1000, 500}[dice.IntN(6)]
}

// randomDemand returns one for a lot.
func randomDemand(dice *rand.Rand, lot int) plan.Demand {
	high := between(dice, 1, lot)
	return want(dice.IntN(high), high, thousandths(dice), thousandths(dice))
}

// P9.4: with the risks just as great as they need be, and a thousandth beside it.
func TestKeepsByHand(t *testing.T) {
	k := counts{}
	for dice, p := range some(2000, 11) {
		all := byAllLots(p)
		for range 20 {
			d := randomDemand(dice, p.Lot)
			if dice.IntN(2) == 0 {
				g, b := all[d.Good], all[d.Bad]
				d.Alpha = min(max(1000-1000*g.accepted/g.of+between(dice, -1, 1), 0), 1000)
				d.Beta = min(max(1000*b.accepted/b.of+between(dice, -1, 1), 0), 1000)
			}
			is, e := plan.Keeps(p, d)
			if is != isKept(d, all) || e != api.OK {
				t.Fatalf("Keeps of %v, %v: %v, %v", p, d, is, e)
			}
			if is {
				k["kept"]++
			} else {
				k["not kept"]++
			}
		}
	}
	k.areLess(t, 1000, "kept", "not kept")
}

// row is a plan with its tallies for each number of bad pieces.
type row struct {
	plan.Plan
	all []tally
}

func rows(lot, stages int) []row {
	var all []row
	for p := range plans(lot, stages) {
		all = append(all, row{p, byAllLots(p)})
	}
	return all
}

func compareNumbers(p, other plan.Plan) int {
	for i, s := range p.Stages {
		o := other.Stages[i]
		if c := cmp.Or(cmp.Compare(s.Take, o.Take), cmp.Compare(s.Accept, o.Accept), cmp.Compare(s.Reject, o.Reject)); c != 0 {
			return c
		}
	}
	return 0
}

// firstThatKeeps returns the first plan, in an order, of those that keep a demand; or none.
func firstThatKeeps(all []row, d plan.Demand, compare func(x, y row) int) plan.Plan {
	var best []row
	for _, x := range all {
		if isKept(d, x.all) && (len(best) == 0 || compare(x, best[0]) < 0) {
			best = []row{x}
		}
	}
	if len(best) == 0 {
		return plan.Plan{}
	}
	return best[0].Plan
}

func isSamePlan(p, other plan.Plan) bool {
	return p.Lot == other.Lot && slices.Equal(p.Stages, other.Stages)
}

// P9.5
func TestSingleByHand(t *testing.T) {
	dice := rand.New(rand.NewPCG(9, 2))
	byTake := func(x, y row) int {
		a, b := x.Stages[0], y.Stages[0]
		return cmp.Or(cmp.Compare(a.Take, b.Take), cmp.Compare(a.Accept, b.Accept))
	}
	for lot := 1; lot <= 12; lot++ {
		all := rows(lot, 1)
		for range 1000 {
			d := randomDemand(dice, lot)
			p, e := plan.Single(lot, d)
			if should := firstThatKeeps(all, d, byTake); !isSamePlan(p, should) || e != api.OK {
				t.Fatalf("Single for %d, %v: %v, %v, not %v", lot, d, p, e, should)
			}
		}
	}
}

// P9.5
func TestDoubleByHand(t *testing.T) {
	dice := rand.New(rand.NewPCG(9, 3))
	for lot := 1; lot <= 10; lot++ {
		all := rows(lot, 2)
		for range 40 {
			d := randomDemand(dice, lot)
			byMean := func(x, y row) int {
				a, b := x.all[d.Good], y.all[d.Good]
				return cmp.Or(cmp.Compare(a.pieces*b.of, b.pieces*a.of), compareNumbers(x.Plan, y.Plan))
			}
			want := api.OK
			if lot == 1 {
				want = api.ErrFail
			}
			p, e := plan.Double(lot, d)
			if should := firstThatKeeps(all, d, byMean); !isSamePlan(p, should) || e != want {
				t.Fatalf("Double for %d, %v: %v, %v, not %v", lot, d, p, e, should)
			}
		}
	}
}
