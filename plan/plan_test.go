package plan_test

import (
	"math"
	"reflect"
	"slices"
	"testing"

	"tensile/api"
	"tensile/plan"
)

const good, bad = false, true

func of(lot int, stages ...plan.Stage) plan.Plan { return plan.Plan{Lot: lot, Stages: stages} }

func st(take, accept, reject int) plan.Stage {
	return plan.Stage{Take: take, Accept: accept, Reject: reject}
}

func over(num, den int) plan.Fraction { return plan.Fraction{Num: num, Den: den} }

func want(good, bad, alpha, beta int) plan.Demand {
	return plan.Demand{Good: good, Bad: bad, Alpha: alpha, Beta: beta}
}

// example is that of the chapter.
func example() plan.Plan { return of(6, st(2, 0, 2), st(2, 1, 2)) }

// full has as many draws as there may be.
func full() plan.Plan { return of(30, st(8, 1, 5), st(8, 3, 6), st(7, 5, 6)) }

type badPlan struct {
	name string
	plan.Plan
	e api.Errno
}

// tooLong returns plans of too many stages; some of them are not valid otherwise, either.
func tooLong() []badPlan {
	ones := []plan.Stage{st(1, -1, 2), st(1, -1, 2), st(1, -1, 2), st(1, 1, 2)}
	return []badPlan{
		{"4 stages", of(6, ones...), api.ErrLimit},
		{"4 stages of nothing", of(6, make([]plan.Stage, 4)...), api.ErrLimit},
		{"4 stages of a lot of 3", of(3, ones...), api.ErrLimit},
		{"4 stages of no lot", of(0, ones...), api.ErrLimit},
		{"4 stages of a lot that is too large", of(31, ones...), api.ErrLimit},
		{"many stages", of(30, make([]plan.Stage, 100000)...), api.ErrLimit},
	}
}

// notValid returns plans that are not valid, but not too long.
func notValid() []badPlan {
	var all []badPlan
	bad := func(name string, lot int, stages ...plan.Stage) {
		all = append(all, badPlan{name, of(lot, stages...), api.ErrArg})
	}
	bad("nothing at all", 0)
	bad("no stage", 6)
	for _, n := range []int{0, -1, 31, math.MinInt, math.MaxInt} {
		bad("a wrong lot", n, st(1, 0, 1))
	}
	for _, n := range []int{0, -1, 7, math.MinInt, math.MaxInt} {
		bad("a wrong Take", 6, st(n, 0, 1))
		bad("a wrong first Take", 6, st(n, 0, 1), st(1, 0, 1))
		bad("a wrong last Take", 6, st(1, -1, 1), st(1, -1, 1), st(n, 0, 1))
	}
	bad("one more than the lot", 6, st(4, 0, 2), st(3, 1, 2))
	bad("one more than the lot, by three", 6, st(2, 0, 2), st(2, 0, 2), st(3, 1, 2))
	bad("more than any lot", 30, st(30, 0, 2), st(30, 1, 2), st(30, 1, 2))
	bad("a sum that turns round", 6, st(1, 0, 2), st(math.MaxInt, 1, 2))
	for _, n := range []int{-2, math.MinInt, math.MaxInt} {
		bad("a wrong Accept", 6, st(2, n, 1))
		bad("a wrong first Accept", 6, st(2, n, 2), st(2, 1, 2))
		bad("a wrong last Accept", 6, st(2, 0, 2), st(2, n, 2))
	}
	for _, n := range []int{0, -1, 4, math.MinInt, math.MaxInt} {
		bad("a wrong first Reject", 6, st(2, 0, n), st(4, 5, 6))
	}
	for _, n := range []int{0, 1, 3, math.MinInt, math.MaxInt} {
		bad("a wrong last Reject", 6, st(2, 0, 2), st(2, 1, n))
	}
	bad("Accept above all pieces", 6, st(2, 3, 4))
	bad("Accept above all pieces of both", 6, st(2, 0, 2), st(2, 5, 6))
	bad("Accept below Reject by all numbers", 6, st(2, math.MaxInt, math.MinInt))
	bad("Accept below Reject by one more than all numbers", 6, st(2, math.MinInt, math.MaxInt))
	bad("a stage that decides nothing", 6, st(2, 0, 2))
	bad("a last stage that does not decide all", 6, st(2, 0, 2), st(2, 0, 2))
	bad("a lesser Accept", 6, st(2, 1, 3), st(2, 0, 3), st(2, 2, 3))
	bad("a lesser last Accept", 6, st(2, 1, 2), st(2, 0, 1))
	bad("a lesser Reject", 6, st(2, 0, 3), st(2, 0, 2), st(2, 2, 3))
	bad("a lesser last Reject", 6, st(2, 0, 3), st(2, 1, 2))
	return all
}

func badPlans() []badPlan { return slices.Concat(tooLong(), notValid()) }

// P9.1
func TestCheckPlan(t *testing.T) {
	for _, x := range badPlans() {
		if e := plan.CheckPlan(x.Plan); e != x.e {
			t.Errorf("%s: %v", x.name, e)
		}
	}
	for _, p := range []plan.Plan{
		example(), full(), of(1, st(1, -1, 0)), of(1, st(1, 0, 1)), of(1, st(1, 1, 2)), of(30, st(30, 30, 31)), of(30, st(1, -1, 0)),
		of(3, st(1, -1, 2), st(1, -1, 3), st(1, 3, 4)), of(3, st(1, -1, 0), st(1, -1, 0), st(1, -1, 0)), of(3, st(1, 1, 2), st(1, 1, 2), st(1, 1, 2)), of(30, st(10, 3, 7), st(10, 3, 7), st(10, 6, 7)),
		// A stage that always decides may have others behind it.
		of(6, st(2, 0, 1), st(2, 3, 4)), of(6, st(2, 2, 3), st(4, 6, 7)), of(6, st(2, -1, 3), st(4, 2, 3)),
	} {
		if e := plan.CheckPlan(p); e != api.OK {
			t.Errorf("CheckPlan of %v: %v", p, e)
		}
	}
}

type risk struct {
	p            plan.Plan
	bad          int
	chance, mean plan.Fraction
}

func risks() []risk {
	return []risk{
		// The chapter's example.
		{example(), 0, over(1, 1), over(2, 1)}, {example(), 1, over(1, 1), over(8, 3)}, {example(), 2, over(2, 3), over(46, 15)}, {example(), 3, over(3, 10), over(16, 5)},
		{example(), 4, over(1, 15), over(46, 15)}, {example(), 5, over(0, 1), over(8, 3)}, {example(), 6, over(0, 1), over(2, 1)},
		// DOC's example: two of 6 are good, if 2 are bad, in 6 of 15 draws.
		{of(6, st(2, 0, 1)), 2, over(2, 5), over(2, 1)}, {of(6, st(2, 1, 2)), 2, over(14, 15), over(2, 1)},
		// A lot of one piece.
		{of(1, st(1, -1, 0)), 0, over(0, 1), over(1, 1)}, {of(1, st(1, -1, 0)), 1, over(0, 1), over(1, 1)}, {of(1, st(1, 0, 1)), 0, over(1, 1), over(1, 1)}, {of(1, st(1, 0, 1)), 1, over(0, 1), over(1, 1)}, {of(1, st(1, 1, 2)), 1, over(1, 1), over(1, 1)},
		// Of a lot that is taken as a whole all is known.
		{of(30, st(30, 14, 15)), 14, over(1, 1), over(30, 1)}, {of(30, st(30, 14, 15)), 15, over(0, 1), over(30, 1)}, {of(30, st(10, -1, 11), st(10, -1, 15), st(10, 14, 15)), 14, over(1, 1), over(30, 1)},
		{of(30, st(10, 2, 3)), 5, over(6403, 7917), over(10, 1)},
		{of(10, st(3, 0, 2), st(3, 1, 3), st(4, 2, 3)), 3, over(53, 120), over(231, 40)},
		{full(), 1, over(1, 1), over(8, 1)}, {full(), 2, over(1, 1), over(3704, 435)}, {full(), 5, over(10175, 10179), over(125306, 10179)}, {full(), 9, over(2234104, 7153575), over(742354, 43355)}, {full(), 15, over(19129, 1077205), over(86096539, 6463230)}, {full(), 23, over(1, 254475), over(2157152, 254475)}, {full(), 24, over(0, 1), over(46568, 5655)}, {full(), 30, over(0, 1), over(8, 1)},
		// As many draws, all of which take all pieces.
		{of(30, st(8, -1, 9), st(8, -1, 17), st(7, 23, 24)), 15, over(1, 1), over(23, 1)}, {of(30, st(8, -1, 9), st(8, -1, 17), st(7, 16, 17)), 20, over(323, 377), over(23, 1)},
		// Behind a stage that decides the others do not count, though they say the contrary.
		{of(6, st(2, 0, 1), st(2, 4, 5)), 2, over(2, 5), over(2, 1)}, {of(6, st(2, -1, 0), st(2, 4, 5)), 0, over(0, 1), over(2, 1)},
	}
}

// P9.1, P9.2
func TestChanceAndMean(t *testing.T) {
	for _, x := range risks() {
		if f, e := plan.Chance(x.p, x.bad); f != x.chance || e != api.OK {
			t.Errorf("Chance of %v for %d: %v, %v", x.p, x.bad, f, e)
		}
		if f, e := plan.Mean(x.p, x.bad); f != x.mean || e != api.OK {
			t.Errorf("Mean of %v for %d: %v, %v", x.p, x.bad, f, e)
		}
	}
}

// P9.3
func TestPlay(t *testing.T) {
	three := of(9, st(1, -1, 1), st(2, 0, 2), st(3, 1, 2))
	for _, x := range []struct {
		p       plan.Plan
		results []bool
		verdict uint8
		pieces  int
	}{
		{example(), nil, plan.Open, 2}, {example(), []bool{}, plan.Open, 2}, {example(), []bool{good}, plan.Open, 1}, {example(), []bool{bad}, plan.Open, 1}, {example(), []bool{good, good}, plan.Accepted, 0}, {example(), []bool{bad, bad}, plan.Rejected, 0},
		{example(), []bool{good, bad}, plan.Open, 2}, {example(), []bool{bad, good}, plan.Open, 2}, {example(), []bool{good, bad, good}, plan.Open, 1}, {example(), []bool{good, bad, good, good}, plan.Accepted, 0}, {example(), []bool{bad, good, good, bad}, plan.Rejected, 0}, {example(), []bool{bad, good, bad, bad}, plan.Rejected, 0},
		// What is already sure is not yet decided, as the stage is not whole.
		{example(), []bool{bad, good, bad}, plan.Open, 1},
		{three, nil, plan.Open, 1}, {three, []bool{bad}, plan.Rejected, 0}, {three, []bool{good}, plan.Open, 2}, {three, []bool{good, good}, plan.Open, 1}, {three, []bool{good, good, good}, plan.Accepted, 0}, {three, []bool{good, bad, good}, plan.Open, 3}, {three, []bool{good, bad, bad}, plan.Rejected, 0},
		{three, []bool{good, good, bad, good}, plan.Open, 2}, {three, []bool{good, good, bad, bad, good}, plan.Open, 1}, {three, []bool{good, bad, good, good, good, good}, plan.Accepted, 0}, {three, []bool{good, bad, good, good, bad, good}, plan.Rejected, 0},
		{of(1, st(1, -1, 0)), nil, plan.Open, 1}, {of(1, st(1, -1, 0)), []bool{good}, plan.Rejected, 0}, {of(1, st(1, 1, 2)), []bool{bad}, plan.Accepted, 0},
		{of(30, st(30, 29, 30)), make([]bool, 29), plan.Open, 1}, {of(30, st(30, 29, 30)), make([]bool, 30), plan.Accepted, 0}, {of(30, st(30, 29, 30)), slices.Repeat([]bool{bad}, 30), plan.Rejected, 0},
	} {
		if v, n, e := plan.Play(x.p, x.results); v != x.verdict || n != x.pieces || e != api.OK {
			t.Errorf("Play of %v, %v: %d, %d, %v", x.p, x.results, v, n, e)
		}
	}
}

// P9.4: each risk just so, and a thousandth beside it.
func TestKeeps(t *testing.T) {
	none := of(6, st(2, -1, 0))
	any := of(6, st(2, 2, 3))
	for _, x := range []struct {
		p    plan.Plan
		d    plan.Demand
		want bool
	}{
		// 2/3 for 2 bad pieces, 3/10 for 3.
		{example(), want(2, 3, 334, 300), true}, {example(), want(2, 3, 333, 300), false}, {example(), want(2, 3, 334, 299), false}, {example(), want(1, 2, 0, 667), true}, {example(), want(1, 2, 0, 666), false}, {example(), want(3, 4, 700, 67), true}, {example(), want(3, 4, 699, 67), false}, {example(), want(3, 4, 700, 66), false},
		{example(), want(0, 5, 0, 0), true}, {example(), want(0, 6, 0, 0), true}, {example(), want(1, 6, 0, 0), true}, {example(), want(2, 6, 0, 0), false},
		{none, want(0, 1, 1000, 0), true}, {none, want(0, 1, 999, 0), false}, {any, want(0, 6, 0, 1000), true}, {any, want(5, 6, 0, 999), false}, {any, want(5, 6, 1000, 1000), true}, {none, want(5, 6, 1000, 1000), true},
		// 19129/1077205 for 15 bad pieces is 17.8 thousandths, 10175/10179 for 5 is 999.6.
		{full(), want(5, 15, 1, 18), true}, {full(), want(5, 15, 0, 18), false}, {full(), want(5, 15, 1, 17), false}, {full(), want(4, 30, 0, 0), true}, {full(), want(4, 23, 0, 0), false},
	} {
		if is, e := plan.Keeps(x.p, x.d); is != x.want || e != api.OK {
			t.Errorf("Keeps of %v, %v: %v, %v", x.p, x.d, is, e)
		}
	}
}

// P9.5
func TestSingle(t *testing.T) {
	for _, x := range []struct {
		lot  int
		d    plan.Demand
		want plan.Stage
	}{
		{6, want(0, 3, 0, 200), st(2, 0, 1)}, {6, want(0, 3, 0, 199), st(3, 0, 1)}, {6, want(0, 3, 0, 500), st(1, 0, 1)}, {6, want(0, 3, 0, 499), st(2, 0, 1)},
		// As good and bad lots are only one piece apart, and nothing may go wrong, all are taken.
		{6, want(0, 1, 0, 0), st(6, 0, 1)}, {6, want(2, 3, 0, 0), st(6, 2, 3)}, {30, want(29, 30, 0, 0), st(30, 29, 30)}, {30, want(14, 15, 0, 0), st(30, 14, 15)}, {1, want(0, 1, 0, 0), st(1, 0, 1)},
		{6, want(0, 6, 0, 0), st(1, 0, 1)}, {6, want(1, 6, 0, 0), st(2, 1, 2)}, {30, want(0, 30, 0, 0), st(1, 0, 1)}, {30, want(5, 30, 0, 0), st(6, 5, 6)},
		// The least Accept, where one piece does.
		{5, want(0, 1, 1000, 0), st(1, -1, 0)}, {5, want(0, 1, 1000, 1000), st(1, -1, 0)}, {5, want(0, 1, 0, 1000), st(1, 0, 1)}, {5, want(1, 2, 0, 1000), st(1, 1, 2)}, {5, want(1, 2, 200, 1000), st(1, 0, 1)}, {5, want(1, 2, 199, 1000), st(1, 1, 2)},
		{10, want(0, 5, 0, 100), st(3, 0, 1)}, {30, want(1, 2, 1000, 1000), st(1, -1, 0)},
	} {
		if p, e := plan.Single(x.lot, x.d); !reflect.DeepEqual(p, of(x.lot, x.want)) || e != api.OK {
			t.Errorf("Single for %d, %v: %v, %v", x.lot, x.d, p, e)
		}
	}
}

// P9.5
func TestDouble(t *testing.T) {
	for _, x := range []struct {
		lot           int
		d             plan.Demand
		first, second plan.Stage
	}{
		{3, want(0, 1, 0, 0), st(1, -1, 1), st(2, 0, 1)},
		// One good piece decides, if only lots of bad ones alone are bad.
		{2, want(0, 2, 0, 0), st(1, 0, 1), st(1, 0, 1)}, {2, want(1, 2, 0, 0), st(1, 0, 2), st(1, 1, 2)}, {2, want(0, 1, 0, 0), st(1, -1, 1), st(1, 0, 1)},
		// What is allowed to go wrong always needs one piece.
		{2, want(0, 1, 1000, 1000), st(1, -1, 0), st(1, -1, 0)}, {10, want(0, 1, 1000, 0), st(1, -1, 0), st(1, -1, 0)}, {10, want(9, 10, 0, 1000), st(1, 1, 2), st(1, 1, 2)}, {10, want(0, 1, 0, 1000), st(1, 0, 1), st(1, 0, 1)},
		{10, want(0, 10, 0, 0), st(1, 0, 1), st(1, 0, 1)},
		// Of a lot with one good piece this is among the first 5 in half of all draws; so the mean is 7 and a half, while it is 9.1 if one piece is taken first, or 9.
		{10, want(9, 10, 0, 0), st(5, 4, 6), st(5, 9, 10)},
	} {
		if p, e := plan.Double(x.lot, x.d); !reflect.DeepEqual(p, of(x.lot, x.first, x.second)) || e != api.OK {
			t.Errorf("Double for %d, %v: %v, %v", x.lot, x.d, p, e)
		}
	}
}

func isNothing(p plan.Plan) bool { return p.Lot == 0 && len(p.Stages) == 0 }

func riskError(t *testing.T, name string, p plan.Plan, bad int, want api.Errno) {
	t.Helper()
	if f, e := plan.Chance(p, bad); f != over(0, 0) || e != want {
		t.Errorf("%s: Chance for %d: %v, %v", name, bad, f, e)
	}
	if f, e := plan.Mean(p, bad); f != over(0, 0) || e != want {
		t.Errorf("%s: Mean for %d: %v, %v", name, bad, f, e)
	}
}

func playError(t *testing.T, name string, p plan.Plan, results []bool, want api.Errno) {
	t.Helper()
	if v, n, e := plan.Play(p, results); v != 0 || n != 0 || e != want {
		t.Errorf("%s: Play of %v: %d, %d, %v", name, results, v, n, e)
	}
}

func keepsError(t *testing.T, name string, p plan.Plan, d plan.Demand, want api.Errno) {
	t.Helper()
	if is, e := plan.Keeps(p, d); is || e != want {
		t.Errorf("%s: Keeps of %v: %v, %v", name, d, is, e)
	}
}

func singleError(t *testing.T, lot int, d plan.Demand, want api.Errno) {
	t.Helper()
	if p, e := plan.Single(lot, d); !isNothing(p) || e != want {
		t.Errorf("Single for %d, %v: %v, %v", lot, d, p, e)
	}
}

func doubleError(t *testing.T, lot int, d plan.Demand, want api.Errno) {
	t.Helper()
	if p, e := plan.Double(lot, d); !isNothing(p) || e != want {
		t.Errorf("Double for %d, %v: %v, %v", lot, d, p, e)
	}
}

func badDemands() []plan.Demand {
	all := []plan.Demand{{}, want(2, 2, 0, 0), want(3, 2, 0, 0), want(30, 30, 0, 0), want(math.MaxInt, math.MinInt, 0, 0), want(math.MinInt, math.MaxInt, 0, 0)}
	for _, n := range []int{-1, math.MinInt} {
		all = append(all, want(n, 2, 0, 0), want(n, 0, 0, 0), want(2*(n/2)-1, n, 0, 0))
	}
	for _, n := range []int{31, math.MaxInt} {
		all = append(all, want(1, n, 0, 0), want(n, n, 0, 0), want(n-1, n, 0, 0))
	}
	for _, n := range []int{-1, 1001, math.MinInt, math.MaxInt} {
		all = append(all, want(0, 1, n, 0), want(0, 1, 0, n))
	}
	return all
}

// R1, R2: what is wrong with the plan comes before what is wrong with the rest.
func TestErrorsOfPlans(t *testing.T) {
	for _, x := range badPlans() {
		for _, bad := range []int{0, 1, -1, 30, 31, math.MinInt, math.MaxInt} {
			riskError(t, x.name, x.Plan, bad, x.e)
		}
		for _, results := range [][]bool{nil, {good}, {bad, bad, bad}, make([]bool, 100000)} {
			playError(t, x.name, x.Plan, results, x.e)
		}
		for _, d := range append(badDemands(), want(0, 1, 0, 0), want(0, 30, 0, 0)) {
			keepsError(t, x.name, x.Plan, d, x.e)
		}
	}
}

// R1, R2: the calls' own errors; of Keeps, Single and Double what is wrong with the demand comes before what is wrong with the lot.
func TestErrorsOfCalls(t *testing.T) {
	for _, bad := range []int{-1, 7, 30, 31, math.MinInt, math.MaxInt} {
		riskError(t, "no number of bad pieces", example(), bad, api.ErrRange)
	}
	riskError(t, "one more than the lot", full(), 31, api.ErrRange)
	for _, results := range [][]bool{{good, good, good}, {bad, bad, good}, {bad, bad, bad}, {good, bad, good, good, good}, {good, bad, bad, good, good}, {good, good, good, bad}, make([]bool, 7), make([]bool, 100000)} {
		playError(t, "too many results", example(), results, api.ErrRange)
	}
	playError(t, "one more than the lot", of(30, st(30, 3, 4)), make([]bool, 31), api.ErrRange)
	for _, d := range badDemands() {
		keepsError(t, "no demand", example(), d, api.ErrArg)
		for _, lot := range []int{1, 3, 10, 11, 30, 31, 0, -1, math.MinInt, math.MaxInt} {
			singleError(t, lot, d, api.ErrArg)
			doubleError(t, lot, d, api.ErrArg)
		}
	}
	keepsError(t, "Bad above the lot", example(), want(1, 7, 0, 0), api.ErrRange)
	keepsError(t, "all above the lot", example(), want(7, 30, 1000, 1000), api.ErrRange)
	for _, lot := range []int{0, -1, 31, math.MinInt, math.MaxInt} {
		singleError(t, lot, want(0, 1, 0, 0), api.ErrRange)
		doubleError(t, lot, want(0, 1, 0, 0), api.ErrRange)
	}
	for _, lot := range []int{11, 12, 30} {
		doubleError(t, lot, want(0, 1, 0, 0), api.ErrRange)
		doubleError(t, lot, want(0, 30, 0, 0), api.ErrRange)
	}
	singleError(t, 3, want(0, 4, 0, 0), api.ErrRange)
	singleError(t, 29, want(0, 30, 1000, 1000), api.ErrRange)
	doubleError(t, 3, want(0, 4, 0, 0), api.ErrRange)
	doubleError(t, 1, want(0, 2, 0, 0), api.ErrRange)
	// A lot of one piece cannot be taken in two stages.
	doubleError(t, 1, want(0, 1, 0, 0), api.ErrFail)
	doubleError(t, 1, want(0, 1, 1000, 1000), api.ErrFail)
}

// R4, and that nothing is kept between calls.
func TestMemory(t *testing.T) {
	p, results := full(), []bool{good, bad, good}
	call := func() []plan.Plan {
		plan.CheckPlan(p)
		plan.Chance(p, 3)
		plan.Mean(p, 3)
		plan.Play(p, results)
		plan.Keeps(p, want(0, 1, 0, 0))
		single, _ := plan.Single(6, want(0, 3, 0, 200))
		double, _ := plan.Double(3, want(0, 1, 0, 0))
		return []plan.Plan{single, double}
	}
	first, second := call(), call()
	for _, x := range first {
		for i := range x.Stages[:cap(x.Stages)] {
			x.Stages[:cap(x.Stages)][i] = st(-7, -7, -7)
		}
	}
	if third := call(); !reflect.DeepEqual(second, third) {
		t.Errorf("%v, behind %v", third, second)
	}
	if !reflect.DeepEqual(p, full()) || !slices.Equal(results, []bool{good, bad, good}) {
		t.Errorf("written to: %v, %v", p, results)
	}
}
