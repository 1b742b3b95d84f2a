package round_test

import (
	"math"
	"reflect"
	"slices"
	"testing"

	"tensile/api"
	"tensile/round"
)

const none = round.None

func to(low, high int) round.Range { return round.Range{Lo: low, Hi: high} }

func lab(tol int, readings ...int) round.Lab { return round.Lab{Tol: tol, Readings: readings} }

// trial has two lots, and three samples.
func trial(labs ...round.Lab) round.Round {
	return round.Round{Lots: []round.Range{to(100, 140), to(200, 260)}, Samples: []int{0, 0, 1}, Spread: 2, Labs: labs}
}

// example is that of the chapter.
func example() round.Round {
	return trial(lab(3, 120, 122, 230), lab(3, 124, 121, 234), lab(2, 131, 133, 240), lab(5, none, 118, 229))
}

// one is a lot of any value, with one sample.
func one(labs ...round.Lab) round.Round {
	return round.Round{Lots: []round.Range{to(0, 1000)}, Samples: []int{0}, Labs: labs}
}

// row is a lot of any value, with as many samples as the first laboratory has readings.
func row(spread int, labs ...round.Lab) round.Round {
	r := one(labs...)
	r.Samples, r.Spread = make([]int, len(labs[0].Readings)), spread
	return r
}

// full has as much of all as there may be, and all can be right at once.
func full() round.Round {
	r := round.Round{Lots: []round.Range{to(0, 1000), to(1000, 1000), to(0, 0), to(500, 500)}, Samples: []int{0, 1, 2, 3, 3, 2, 1, 0}, Spread: 100}
	for range 6 {
		r.Labs = append(r.Labs, lab(100, 7, 1000, 0, 700, 300, none, 800, 0))
	}
	return r
}

type badRound struct {
	name string
	round.Round
	e api.Errno
}

// tooLong returns rounds that are too long; some of them are not valid otherwise, either.
func tooLong() []badRound {
	var all []badRound
	bad := func(name string, change func(r *round.Round)) {
		r := example()
		change(&r)
		all = append(all, badRound{name, r, api.ErrLimit})
	}
	bad("5 lots", func(r *round.Round) { r.Lots = slices.Repeat(r.Lots[:1], 5) })
	bad("many lots, of nothing", func(r *round.Round) { r.Lots = slices.Repeat([]round.Range{to(2, 1)}, 100000) })
	bad("9 samples, of which nobody has a reading", func(r *round.Round) { r.Samples = make([]int, 9) })
	bad("9 samples, and no laboratory", func(r *round.Round) { r.Samples, r.Labs = make([]int, 9), nil })
	bad("9 samples, and 9 readings", func(r *round.Round) { *r = row(0, lab(0, make([]int, 9)...)) })
	bad("9 samples of no lot", func(r *round.Round) { r.Samples = slices.Repeat([]int{7}, 9) })
	bad("7 laboratories", func(r *round.Round) { r.Labs = slices.Repeat(r.Labs[:1], 7) })
	bad("many laboratories without readings", func(r *round.Round) { r.Labs = make([]round.Lab, 100000) })
	bad("7 laboratories, and no lot", func(r *round.Round) { r.Labs, r.Lots = slices.Repeat(r.Labs[:1], 7), nil })
	bad("7 laboratories, and a wrong Spread", func(r *round.Round) { r.Labs, r.Spread = slices.Repeat(r.Labs[:1], 7), -1 })
	return all
}

// notValid returns rounds that are not valid, but not too long.
func notValid() []badRound {
	var all []badRound
	bad := func(name string, change func(r *round.Round)) {
		r := example()
		change(&r)
		all = append(all, badRound{name, r, api.ErrArg})
	}
	bad("no lot", func(r *round.Round) { r.Lots = nil })
	bad("nothing at all", func(r *round.Round) { *r = round.Round{} })
	for _, x := range []round.Range{to(2, 1), to(-1, 5), to(0, 1001), to(-1, -1), to(1001, 1001), to(1000, 0), to(math.MinInt, math.MaxInt), to(math.MaxInt, math.MinInt), to(0, math.MaxInt), to(math.MinInt, 0)} {
		bad("a wrong lot", func(r *round.Round) { r.Lots[0] = x })
		bad("a wrong lot without a sample", func(r *round.Round) { r.Lots = append(r.Lots, x) })
	}
	for _, n := range []int{-1, 2, 4, math.MinInt, math.MaxInt} {
		bad("a sample of no lot", func(r *round.Round) { r.Samples[0] = n })
		bad("a last sample of no lot", func(r *round.Round) { r.Samples[2] = n })
	}
	for _, n := range []int{-1, 101, math.MinInt, math.MaxInt} {
		bad("a wrong Spread", func(r *round.Round) { r.Spread = n })
		bad("a wrong Tol", func(r *round.Round) { r.Labs[0].Tol = n })
		bad("a wrong last Tol", func(r *round.Round) { r.Labs[3].Tol = n })
	}
	for _, n := range []int{-2, 1001, math.MinInt, math.MaxInt} {
		bad("a wrong reading", func(r *round.Round) { r.Labs[0].Readings[0] = n })
		bad("a wrong last reading", func(r *round.Round) { r.Labs[3].Readings[2] = n })
	}
	for _, l := range [][]int{nil, {1, 2}, {1, 2, 3, 4}, make([]int, 9), make([]int, 100000)} {
		bad("a wrong number of readings", func(r *round.Round) { r.Labs[1].Readings = l })
	}
	bad("readings of no sample", func(r *round.Round) { r.Samples = nil })
	return all
}

func badRounds() []badRound { return slices.Concat(tooLong(), notValid()) }

// P8.1
func TestCheckRound(t *testing.T) {
	for _, x := range badRounds() {
		if e := round.CheckRound(x.Round); e != x.e {
			t.Errorf("%s: %v", x.name, e)
		}
	}
	for _, r := range []round.Round{
		example(), full(), trial(), one(), one(lab(0, 0)), one(lab(100, 1000)), one(lab(3, none)), row(100, lab(0, 1, 2, 3, 4, 5, 6, 7, 8)),
		{Lots: []round.Range{to(0, 0)}}, {Lots: []round.Range{to(1000, 1000)}, Labs: []round.Lab{lab(1), lab(2)}}, {Lots: slices.Repeat([]round.Range{to(3, 4)}, 4), Samples: []int{3}},
	} {
		if e := round.CheckRound(r); e != api.OK {
			t.Errorf("CheckRound of %v: %v", r, e)
		}
	}
}

// P8.1
func TestExplains(t *testing.T) {
	apart := row(2, lab(0, 10, 14), lab(0, none, 14))
	for _, x := range []struct {
		r    round.Round
		off  []int
		want bool
	}{
		{example(), nil, false}, {example(), []int{2}, true}, {example(), []int{0, 1}, false}, {example(), []int{0, 1, 3}, true}, {example(), []int{0, 1, 2, 3}, true}, {example(), []int{}, false}, {example(), []int{1, 2}, true}, {example(), []int{3}, false},
		// DOC's example.
		{one(lab(1, 5), lab(1, 7)), nil, true}, {one(lab(1, 5), lab(1, 8)), nil, false}, {one(lab(1, 5), lab(1, 8)), []int{0}, true}, {one(lab(1, 5), lab(1, 8)), []int{1}, true},
		// Each two of three fit together, and all three do.
		{one(lab(2, 5), lab(2, 7), lab(2, 9)), nil, true}, {one(lab(2, 5), lab(2, 7), lab(2, 10)), nil, false},
		// Who cannot be right with anybody.
		{one(lab(1, 999)), nil, true}, {row(0, lab(1, 4, 7)), nil, false}, {row(0, lab(1, 4, 7)), []int{0}, true}, {row(0, lab(1, 4, 6)), nil, true},
		// The samples of a lot are twice the Spread apart, at most, but the Tol is beside it.
		{apart, nil, true}, {row(2, lab(0, 10, 15)), nil, false}, {row(2, lab(1, 10, 16)), nil, true}, {row(2, lab(1, 10, 17)), nil, false}, {row(2, lab(0, 10, none), lab(0, none, 15)), nil, false}, {row(2, lab(0, 10, none), lab(0, none, 14)), nil, true},
		// Each two of three samples may be so far apart, if the third one is between them.
		{row(2, lab(0, 10, 12, 14)), nil, true}, {row(2, lab(0, 10, 9, 14)), nil, false}, {row(2, lab(0, 10, 15, 14)), nil, false},
		// Ends of a lot.
		{trial(lab(0, 98, none, none)), nil, true}, {trial(lab(0, 97, none, none)), nil, false}, {trial(lab(0, none, 142, none)), nil, true}, {trial(lab(0, none, 143, none)), nil, false}, {trial(lab(4, none, none, 266)), nil, true}, {trial(lab(4, none, none, 267)), nil, false},
		// Nothing of one sample is left, while its lot still has values.
		{row(2, lab(0, 5, none), lab(0, 6, none)), nil, false}, {row(50, lab(1, 5, 5), lab(1, 8, none)), nil, false},
		// The other lot makes no difference.
		{trial(lab(0, 100, 104, none), lab(0, none, none, 9)), []int{1}, true}, {trial(lab(0, 100, 104, none), lab(0, none, none, 9)), []int{0}, false},
		{trial(), nil, true}, {one(), nil, true}, {one(lab(0, none)), nil, true}, {full(), nil, true}, {full(), []int{0, 1, 2, 3, 4, 5}, true}, {full(), []int{5}, true}, {round.Round{Lots: []round.Range{to(0, 0)}, Labs: []round.Lab{lab(0)}}, nil, true},
	} {
		if is, e := round.Explains(x.r, x.off); is != x.want || e != api.OK {
			t.Errorf("Explains of %v, %v: %v, %v", x.r, x.off, is, e)
		}
	}
}

type spanned struct {
	name string
	r    round.Round
	off  []int
	want []round.Range
}

func spans() []spanned {
	all := to(-100, 1100)
	return []spanned{
		{"the chapter's example", example(), []int{2}, []round.Range{to(121, 123), to(119, 123), to(231, 233)}},
		{"more are off", example(), []int{0, 2}, []round.Range{to(121, 127), to(118, 123), to(231, 234)}},
		{"one is right", example(), []int{0, 1, 3}, []round.Range{to(129, 133), to(131, 135), to(238, 242)}},
		{"nobody is right", example(), []int{0, 1, 2, 3}, []round.Range{to(98, 142), to(98, 142), to(198, 262)}},
		{"nobody has read", trial(), nil, []round.Range{to(98, 142), to(98, 142), to(198, 262)}},
		{"no sample", round.Round{Lots: []round.Range{to(1, 2)}, Labs: []round.Lab{lab(1)}}, nil, nil},
		{"no sample, and who is off", round.Round{Lots: []round.Range{to(1, 2)}, Labs: []round.Lab{lab(1)}}, []int{0}, nil},
		{"a sample of the same lot", row(3, lab(0, 10, none)), nil, []round.Range{to(10, 10), to(4, 16)}},
		{"below 0", row(3, lab(1, 1, none)), nil, []round.Range{to(0, 2), to(-3, 8)}},
		{"below 0, as it is read", row(100, lab(100, 0, none)), nil, []round.Range{to(-100, 100), to(-100, 300)}},
		{"above all values", row(100, lab(100, none, 1000)), nil, []round.Range{to(700, 1100), to(900, 1100)}},
		{"as wide as can be", row(100, lab(0, none, none)), nil, []round.Range{all, all}},
		{"three in a row", row(1, lab(0, 10, none, 12)), nil, []round.Range{to(10, 10), to(10, 12), to(12, 12)}},
		{"the lot is narrow", round.Round{Lots: []round.Range{to(50, 51)}, Samples: []int{0, 0}, Spread: 4, Labs: []round.Lab{lab(2, 45, none)}}, nil, []round.Range{to(46, 47), to(46, 55)}},
		{"by the other end", round.Round{Lots: []round.Range{to(50, 60)}, Samples: []int{0, 0}, Spread: 4, Labs: []round.Lab{lab(2, 63, none)}}, nil, []round.Range{to(61, 64), to(53, 64)}},
		{"as much as there may be", full(), nil, []round.Range{to(-93, 107), to(900, 1100), to(-100, 100), to(600, 600), to(400, 400), to(-100, 100), to(900, 900), to(-100, 100)}},
	}
}

// P8.2
func TestSpans(t *testing.T) {
	for _, x := range spans() {
		if l, e := round.Spans(x.r, x.off); !slices.Equal(l, x.want) || e != api.OK {
			t.Errorf("%s: %v, %v, not %v", x.name, l, e, x.want)
		}
	}
}

type judged struct {
	name             string
	r                round.Round
	least, convicted []int
}

func verdicts() []judged {
	five, nine := lab(1, 5), lab(1, 9)
	return []judged{
		{"the chapter's example", example(), []int{2}, []int{2}},
		{"nobody", trial(), nil, nil},
		{"no sample", round.Round{Lots: []round.Range{to(1, 2)}, Labs: []round.Lab{lab(1), lab(0)}}, nil, nil},
		{"all are right", full(), nil, nil},
		{"one is right", one(five), nil, nil},
		{"either of two", one(five, nine), []int{0}, nil},
		{"two of three", one(five, nine, lab(1, 13)), []int{0, 1}, nil},
		{"one against two", one(five, nine, lab(1, 10)), []int{0}, []int{0}},
		{"two against one", one(lab(1, 10), nine, five), []int{2}, []int{2}},
		{"two of four", one(five, five, lab(1, 20), nine), []int{2, 3}, []int{2, 3}},
		{"two against two", one(five, nine, five, nine), []int{0, 2}, nil},
		{"two against two, in turn", one(nine, five, five, nine), []int{0, 3}, nil},
		{"two against two, and one surely", one(lab(1, 5), lab(1, 6), lab(1, 9), lab(1, 10), lab(1, 90)), []int{0, 1, 4}, []int{4}},
		{"one surely, in front", one(lab(1, 90), five, nine), []int{0, 1}, nil},
		{"one surely, in front of two against two", one(lab(1, 90), five, five, nine, nine), []int{0, 1, 2}, []int{0}},
		{"in the midst", one(five, nine, lab(3, 7)), []int{0}, nil},
		{"not with itself", row(0, lab(1, 4, 7)), []int{0}, []int{0}},
		{"none with itself", row(0, lab(1, 4, 7), lab(1, 4, 7), lab(0, 5, 6)), []int{0, 1, 2}, []int{0, 1, 2}},
		{"five beside the lot", trial(lab(0, 9, none, none), lab(0, 9, none, none), lab(0, 9, none, none), lab(0, 9, none, none), lab(0, 9, none, none), lab(0, 120, none, none)), []int{0, 1, 2, 3, 4}, []int{0, 1, 2, 3, 4}},
		{"six beside the lot", trial(slices.Repeat([]round.Lab{lab(0, 9, none, none)}, 6)...), []int{0, 1, 2, 3, 4, 5}, []int{0, 1, 2, 3, 4, 5}},
		{"the last one", one(five, five, five, five, five, nine), []int{5}, []int{5}},
		{"all against each other", one(lab(0, 1), lab(0, 2), lab(0, 3), lab(0, 4), lab(0, 5), lab(0, 6)), []int{0, 1, 2, 3, 4}, nil},
		{"by two lots", trial(lab(0, 120, none, none), lab(0, 121, none, 230), lab(0, none, none, 231)), []int{1}, []int{1}},
		{"one of each lot", trial(lab(0, 120, none, none), lab(0, 121, none, none), lab(0, none, none, 230), lab(0, none, none, 231)), []int{0, 2}, nil},
		{"one of a lot, and one surely", trial(lab(0, 120, none, none), lab(0, 121, none, none), lab(0, none, none, 230), lab(0, none, none, 231), lab(0, none, none, 231)), []int{0, 2}, []int{2}},
	}
}

// P8.3, P8.4
func TestLeastAndConvicted(t *testing.T) {
	for _, x := range verdicts() {
		want := api.OK
		if len(x.convicted) == 0 {
			want = api.ErrNone
		}
		if l, e := round.Least(x.r); !slices.Equal(l, x.least) || e != api.OK {
			t.Errorf("%s: Least: %v, %v, not %v", x.name, l, e, x.least)
		}
		if l, e := round.Convicted(x.r); !slices.Equal(l, x.convicted) || e != want {
			t.Errorf("%s: Convicted: %v, %v, not %v", x.name, l, e, x.convicted)
		}
	}
}

type shifted struct {
	name string
	r    round.Round
	lab  int
	want round.Range
}

// nothing is what is wanted of a laboratory that errs by no shift.
var nothing = to(1, 0)

func shifts() []shifted {
	return []shifted{
		{"the chapter's example", example(), 2, to(8, 11)},
		{"less than the other one", one(lab(1, 5), lab(2, 9)), 0, to(-7, -1)},
		{"more than the other one", one(lab(1, 5), lab(2, 9)), 1, to(1, 7)},
		{"right", one(lab(1, 5), lab(2, 6)), 1, to(-2, 4)},
		{"nothing read", one(lab(1, 5), lab(2, none)), 1, to(-2000, 2000)},
		{"no sample", round.Round{Lots: []round.Range{to(1, 2)}, Labs: []round.Lab{lab(1)}}, 0, to(-2000, 2000)},
		{"alone", one(lab(1, 300)), 0, to(-701, 301)},
		{"as far below as can be", row(100, lab(100, 0, none)), 0, to(-1200, 200)},
		{"as far above as can be", row(100, lab(100, none, 1000)), 0, to(-200, 1200)},
		{"no shift does for both readings", row(1, lab(0, 5, 7), lab(1, 9, 8)), 1, nothing},
		{"just one does", row(1, lab(0, 5, 7), lab(1, 9, 9)), 1, to(3, 3)},
		{"by two readings", row(2, lab(0, 5, 7), lab(1, 9, 10)), 1, to(3, 4)},
		{"by a sample of the same lot", row(1, lab(0, 50, none), lab(0, none, 60)), 1, to(8, 12)},
		{"by the end of the lot", trial(lab(1, 150, none, none)), 0, to(7, 53)},
		{"by lots apart", trial(lab(0, 150, none, none), lab(1, none, none, 230)), 0, to(8, 52)},
		{"by two lots", trial(lab(1, 150, none, 190)), 0, nothing},
		{"by two lots, just so", trial(lab(1, 150, none, 270)), 0, to(7, 53)},
		{"one of many", full(), 3, to(0, 0)},
		// Its own two readings are as far from each other by any shift, while both fit the other laboratory by the shifts from 2 to 8.
		{"at odds with itself", row(1, lab(5, 10, 13), lab(0, 14, 19)), 1, nothing},
		{"not at odds with itself", row(1, lab(5, 10, 13), lab(0, 16, 18)), 1, to(1, 10)},
	}
}

// P8.5
func TestShifts(t *testing.T) {
	for _, x := range shifts() {
		if x.want == nothing {
			shiftsError(t, x.name, x.r, x.lab, api.ErrNone)
		} else if s, e := round.Shifts(x.r, x.lab); s != x.want || e != api.OK {
			t.Errorf("%s: %v, %v, not %v", x.name, s, e, x.want)
		}
	}
}

// hasError holds the calls that have only the round against an error and zero values.
func hasError(t *testing.T, name string, r round.Round, want api.Errno) {
	t.Helper()
	if l, e := round.Least(r); len(l) > 0 || e != want {
		t.Errorf("%s: Least: %v, %v", name, l, e)
	}
	if l, e := round.Convicted(r); len(l) > 0 || e != want {
		t.Errorf("%s: Convicted: %v, %v", name, l, e)
	}
}

func hasErrorWithout(t *testing.T, name string, r round.Round, off []int, want api.Errno) {
	t.Helper()
	if is, e := round.Explains(r, off); is || e != want {
		t.Errorf("%s: Explains of %v: %v, %v", name, off, is, e)
	}
	if l, e := round.Spans(r, off); len(l) > 0 || e != want {
		t.Errorf("%s: Spans without %v: %v, %v", name, off, l, e)
	}
}

func shiftsError(t *testing.T, name string, r round.Round, lab int, want api.Errno) {
	t.Helper()
	if s, e := round.Shifts(r, lab); s != to(0, 0) || e != want {
		t.Errorf("%s: Shifts of %d: %v, %v", name, lab, s, e)
	}
}

// R1, R2: what is wrong with the round comes before what is wrong with the rest.
func TestErrors(t *testing.T) {
	for _, x := range badRounds() {
		hasError(t, x.name, x.Round, x.e)
		for _, off := range [][]int{nil, {0}, {2}, {0, 1, 2, 3}, {1, 0}, {-1}, {9}, make([]int, 100000)} {
			hasErrorWithout(t, x.name, x.Round, off, x.e)
		}
		for _, lab := range []int{0, 2, 4, -1, math.MinInt, math.MaxInt} {
			shiftsError(t, x.name, x.Round, lab, x.e)
		}
	}
}

// R1, R2: the calls' own errors, behind those of the round.
func TestErrorsOfCalls(t *testing.T) {
	for _, off := range [][]int{{4}, {-1}, {1, 0}, {1, 1}, {0, 1, 2, 3, 4}, {0, 2, 1}, {-1, 2}, {2, 4}, {2, 2}, {math.MinInt}, {math.MaxInt}, {math.MinInt, 2}, {2, math.MaxInt}, make([]int, 100000), {6}} {
		hasErrorWithout(t, "no list", example(), off, api.ErrRange)
		hasErrorWithout(t, "no list of nobody", trial(), off, api.ErrRange)
	}
	for _, lab := range []int{4, 5, 6, -1, math.MinInt, math.MaxInt} {
		shiftsError(t, "no laboratory", example(), lab, api.ErrRange)
		shiftsError(t, "no laboratory", trial(), lab, api.ErrRange)
	}
	shiftsError(t, "nobody", trial(), 0, api.ErrRange)
	for _, off := range [][]int{nil, {0}, {1}, {3}, {0, 1}, {0, 3}, {1, 3}} {
		if l, e := round.Spans(example(), off); len(l) > 0 || e != api.ErrFail {
			t.Errorf("Spans without %v: %v, %v", off, l, e)
		}
	}
	for _, lab := range []int{0, 1, 3} {
		shiftsError(t, "more are off", example(), lab, api.ErrFail)
	}
	wild := example()
	wild.Labs[2].Readings[1] = 600
	shiftsError(t, "not always alike", wild, 2, api.ErrNone)
	// It fits the others by no shift, and would not even by itself: but these do not fit together.
	shiftsError(t, "both", row(0, lab(0, 1, 9), lab(0, 2, 2), lab(0, 3, 3)), 0, api.ErrFail)
}

type answers struct {
	least, convicted []int
	spans            []round.Range
}

// R4, and that nothing is kept between calls.
func TestMemory(t *testing.T) {
	r, off := example(), []int{0, 2}
	call := func() answers {
		var x answers
		x.least, _ = round.Least(r)
		x.convicted, _ = round.Convicted(r)
		x.spans, _ = round.Spans(r, off)
		round.CheckRound(r)
		round.Explains(r, off)
		round.Shifts(r, 2)
		return x
	}
	first, second := call(), call()
	for i := range first.spans[:cap(first.spans)] {
		first.spans[:cap(first.spans)][i] = to(-7, -7)
	}
	for _, l := range [][]int{first.least, first.convicted} {
		for i := range l[:cap(l)] {
			l[:cap(l)][i] = -7
		}
	}
	if third := call(); !reflect.DeepEqual(second, third) {
		t.Errorf("%v, behind %v", third, second)
	}
	if !reflect.DeepEqual(r, example()) || !slices.Equal(off, []int{0, 2}) {
		t.Errorf("written to: %v, %v", r, off)
	}
}
