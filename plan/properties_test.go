package plan_test

import (
	"math/rand/v2"
	"slices"
	"testing"

	"tensile/api"
	"tensile/plan"
)

func compare(f, other plan.Fraction) int {
	return f.Num*other.Den - other.Num*f.Den
}

func keeps(t *testing.T, p plan.Plan, d plan.Demand) bool {
	t.Helper()
	is, e := plan.Keeps(p, d)
	if e != api.OK {
		t.Fatalf("Keeps of %v, %v: %v", p, d, e)
	}
	return is
}

func singleOf(t *testing.T, lot int, d plan.Demand) plan.Plan {
	t.Helper()
	p, e := plan.Single(lot, d)
	if e != api.OK || p.Lot != lot || len(p.Stages) != 1 || !isPlan(p) {
		t.Fatalf("Single for %d, %v: %v, %v", lot, d, p, e)
	}
	return p
}

// P9.1, P9.2: each fraction is in its lowest terms.
func TestLowestTerms(t *testing.T) {
	k := counts{}
	for dice, p := range some(4000, 30) {
		number := dice.IntN(p.Lot + 1)
		for _, f := range []plan.Fraction{chanceOf(t, p, number), meanOf(t, p, number)} {
			for by := 2; by <= 30; by++ {
				if f.Num%by == 0 && f.Den%by == 0 {
					t.Fatalf("%v for %d: %v", p, number, f)
				}
			}
			if f.Den < 1 || f.Num < 0 || f.Num == 0 && f.Den != 1 {
				t.Fatalf("%v for %d: %v", p, number, f)
			}
			if f.Num == 0 {
				k["nothing"]++
			} else if f.Den > 1 {
				k["broken"]++
			}
		}
	}
	k.areLess(t, 500, "nothing", "broken")
}

// isLess tells whether each Accept is less than the pieces that are taken by then.
func isLess(p plan.Plan) bool {
	taken := 0
	for _, s := range p.Stages {
		taken += s.Take
		if s.Accept >= taken {
			return false
		}
	}
	return true
}

// P9.7
func TestMoreBadOnes(t *testing.T) {
	k := counts{}
	for _, p := range some(2000, 30) {
		at := chanceOf(t, p, 0)
		switch {
		case p.Stages[0].Reject > 0 && at != over(1, 1) || p.Stages[0].Reject == 0 && at != over(0, 1):
			t.Fatalf("%v with good pieces alone: %v", p, at)
		case p.Stages[0].Reject == 0:
			k["never"]++
		}
		for number := 1; number <= p.Lot; number++ {
			f := chanceOf(t, p, number)
			switch c := compare(f, at); {
			case c > 0:
				t.Fatalf("%v: %v for %d, %v before", p, f, number, at)
			case c < 0:
				k["less"]++
			}
			at = f
		}
		if isLess(p) {
			k["with bad ones alone"]++
			if at != over(0, 1) {
				t.Fatalf("%v with bad pieces alone: %v", p, at)
			}
		}
	}
	k.areLess(t, 100, "never", "less", "with bad ones alone")
}

// P9.8: each plan of one stage with fewer pieces is asked.
func TestFewestPieces(t *testing.T) {
	dice := rand.New(rand.NewPCG(9, 4))
	for lot := 1; lot <= 30; lot++ {
		for range 20 {
			d := randomDemand(dice, lot)
			p := singleOf(t, lot, d)
			if !keeps(t, p, d) {
				t.Fatalf("Single for %d, %v: %v", lot, d, p)
			}
			for take := 1; take < p.Stages[0].Take; take++ {
				for accept := -1; accept <= take; accept++ {
					if keeps(t, of(lot, st(take, accept, accept+1)), d) {
						t.Fatalf("Single for %d, %v: %v, while %d, %d does", lot, d, p, take, accept)
					}
				}
			}
		}
	}
}

// P9.8: there is a single plan for each demand without risks, and for each with the greatest ones.
func TestEachDemand(t *testing.T) {
	for lot := 1; lot <= 30; lot++ {
		for high := 1; high <= lot; high++ {
			for low := range high {
				for _, risk := range []int{0, 1000} {
					d := want(low, high, risk, risk)
					if !keeps(t, singleOf(t, lot, d), d) {
						t.Fatalf("Single for %d, %v", lot, d)
					}
				}
			}
		}
	}
}

// P9.8: plans of two stages of all lots; of small ones all plans.
func TestLeastMean(t *testing.T) {
	dice := rand.New(rand.NewPCG(9, 5))
	k := counts{}
	for lot := 2; lot <= 10; lot++ {
		for range 30 {
			d := randomDemand(dice, lot)
			p, e := plan.Double(lot, d)
			if e != api.OK || len(p.Stages) != 2 || !isPlan(p) || !keeps(t, p, d) {
				t.Fatalf("Double for %d, %v: %v, %v", lot, d, p, e)
			}
			least := meanOf(t, p, d.Good)
			isAtMost := func(other plan.Plan) bool {
				is := !keeps(t, other, d) || compare(least, meanOf(t, other, d.Good)) <= 0
				if !is {
					t.Errorf("Double for %d, %v: %v, while %v does", lot, d, p, other)
				}
				k["asked"]++
				return is
			}
			if lot <= 4 {
				plans(lot, 2)(isAtMost)
				continue
			}
			for range 200 {
				if other := randomPlan(dice, lot, 2); len(other.Stages) == 2 {
					isAtMost(other)
				}
			}
		}
	}
	k.areLess(t, 10000, "asked")
}

// kinder returns a demand that is easier to keep by one of its numbers, if it can be.
func kinder(dice *rand.Rand, d plan.Demand, lot int) (plan.Demand, string) {
	switch dice.IntN(4) {
	case 0:
		d.Alpha = between(dice, d.Alpha, 1000)
		return d, "Alpha"
	case 1:
		d.Beta = between(dice, d.Beta, 1000)
		return d, "Beta"
	case 2:
		d.Good = between(dice, 0, d.Good)
		return d, "Good"
	}
	d.Bad = between(dice, d.Bad, lot)
	return d, "Bad"
}

// P9.9
func TestKinder(t *testing.T) {
	k := counts{}
	for dice, p := range some(8000, 30) {
		d := randomDemand(dice, p.Lot)
		easier, by := kinder(dice, d, p.Lot)
		switch before, behind := keeps(t, p, d), keeps(t, p, easier); {
		case before && !behind:
			t.Fatalf("%v keeps %v, but not %v", p, d, easier)
		case behind && !before:
			k[by]++
		}
		before, behind := singleOf(t, p.Lot, d).Stages[0], singleOf(t, p.Lot, easier).Stages[0]
		if behind.Take > before.Take {
			t.Fatalf("Single for %d: %v for %v, %v for %v", p.Lot, before, d, behind, easier)
		}
		if behind.Take < before.Take {
			k["fewer by "+by]++
		}
	}
	k.areLess(t, 50, "Alpha", "Beta", "Good", "Bad", "fewer by Alpha", "fewer by Beta", "fewer by Good", "fewer by Bad")
}

// someResults returns so many.
func someResults(dice *rand.Rand, many int) []bool {
	var all []bool
	rarity := between(dice, 1, 5)
	for range many {
		all = append(all, dice.IntN(rarity) == 0)
	}
	return all
}

// P9.10: results go on with as many as are asked for until they decide, and are decided by these alone.
func TestResultsGoOn(t *testing.T) {
	k := counts{}
	for dice, p := range some(4000, 30) {
		var results []bool
		for stage := 0; ; stage++ {
			v, n, e := plan.Play(p, results)
			if e != api.OK || (v == plan.Open) != (n > 0) {
				t.Fatalf("Play of %v, %v: %d, %d, %v", p, results, v, n, e)
			}
			if v != plan.Open {
				k[[]string{"", "accepted", "rejected"}[v]]++
				break
			}
			if stage == len(p.Stages) || n != p.Stages[stage].Take {
				t.Fatalf("Play of %v, %v: %d more", p, results, n)
			}
			for _, is := range someResults(dice, n) {
				if v, more, e := plan.Play(p, results); v != plan.Open || more != n || e != api.OK {
					t.Fatalf("Play of %v, %v: %d, %d, %v, not %d more", p, results, v, more, e, n)
				}
				results = append(results, is)
				n--
			}
			if stage > 0 {
				k["a stage behind the first one"]++
			}
		}
		for _, is := range []bool{good, bad} {
			playError(t, "decided", p, append(slices.Clone(results), is), api.ErrRange)
		}
	}
	k.areLess(t, 500, "accepted", "rejected", "a stage behind the first one")
}

// P9.10: which pieces of a stage are bad does not matter.
func TestOrderInStage(t *testing.T) {
	k := counts{}
	for dice, p := range some(4000, 30) {
		taken := 0
		for _, s := range p.Stages {
			taken += s.Take
		}
		results := someResults(dice, dice.IntN(taken+1))
		other := slices.Clone(results)
		from := 0
		for _, s := range p.Stages {
			to := min(from+s.Take, len(other))
			part := other[from:to]
			dice.Shuffle(len(part), func(i, j int) { part[i], part[j] = part[j], part[i] })
			from = to
		}
		v, n, e := plan.Play(p, results)
		w, m, f := plan.Play(p, other)
		if v != w || n != m || e != f {
			t.Fatalf("Play of %v, %v: %d, %d, %v; %v: %d, %d, %v", p, results, v, n, e, other, w, m, f)
		}
		if !slices.Equal(results, other) {
			k["another order"]++
		}
	}
	k.areLess(t, 1000, "another order")
}

// isSure tells whether the first stage of a plan decides, however many of its pieces are bad.
func isSure(p plan.Plan, number int) bool {
	s := p.Stages[0]
	for found := max(0, s.Take-(p.Lot-number)); found <= min(s.Take, number); found++ {
		if s.Accept < found && found < s.Reject {
			return false
		}
	}
	return true
}

// P9.11
func TestBetween(t *testing.T) {
	k := counts{}
	for dice, p := range some(8000, 30) {
		number := dice.IntN(p.Lot + 1)
		mean := meanOf(t, p, number)
		taken := 0
		for _, s := range p.Stages {
			taken += s.Take
		}
		first := over(p.Stages[0].Take, 1)
		if compare(mean, first) < 0 || compare(mean, over(taken, 1)) > 0 || (mean == first) != isSure(p, number) {
			t.Fatalf("Mean of %v for %d: %v", p, number, mean)
		}
		switch {
		case len(p.Stages) == 1:
		case mean == first:
			k["the first stage"]++
		case mean == over(taken, 1):
			k["all stages"]++
		default:
			k["between"]++
		}
	}
	k.areLess(t, 200, "the first stage", "all stages", "between")
}

// P9.12
func TestStageSplit(t *testing.T) {
	many := 0
	for dice, p := range some(8000, 30) {
		s := p.Stages[len(p.Stages)-1]
		s.Accept = min(s.Accept, s.Take)
		s.Reject = s.Accept + 1
		if s.Take == 1 {
			continue
		}
		part := between(dice, 1, s.Take-1)
		split := of(p.Lot, st(part, -1, min(part+1, s.Reject)), st(s.Take-part, s.Accept, s.Reject))
		number := dice.IntN(p.Lot + 1)
		if a, b := chanceOf(t, of(p.Lot, s), number), chanceOf(t, split, number); a != b {
			t.Fatalf("%v for %d: %v, split %v: %v", s, number, a, split, b)
		}
		many++
	}
	if many < 3000 {
		t.Error(many)
	}
}

// anyPlan returns a plan of which most numbers are as they should be, or none is.
func anyPlan(dice *rand.Rand, number func() int) plan.Plan {
	p := randomPlan(dice, between(dice, 1, 30), 3)
	if dice.IntN(2) == 0 {
		p = of(number(), make([]plan.Stage, dice.IntN(5))...)
	}
	rarity := between(dice, 1, 10)
	for i := range p.Stages {
		s := &p.Stages[i]
		for _, x := range []*int{&s.Take, &s.Accept, &s.Reject} {
			if dice.IntN(rarity) == 0 {
				*x = number()
			}
		}
	}
	return p
}

// P1: whatever the arguments are.
func TestAnyArguments(t *testing.T) {
	dice := rand.New(rand.NewPCG(9, 6))
	number := func() int {
		return []int{between(dice, 0, 7), between(dice, -3, 33), int(dice.Uint64())}[dice.IntN(3)]
	}
	k := counts{}
	for range 50000 {
		p := anyPlan(dice, number)
		d := want(number(), number(), number(), number())
		_, e := plan.Chance(p, number())
		k[e.Error()]++
		plan.Mean(p, number())
		plan.Play(p, someResults(dice, dice.IntN(40)))
		plan.Keeps(p, d)
		plan.Single(number(), d)
		plan.Double(number(), d)
	}
	k.areLess(t, 1000, api.OK.Error(), api.ErrArg.Error(), api.ErrRange.Error(), api.ErrLimit.Error())
}
