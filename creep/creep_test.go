package creep_test

import (
	"math"
	"reflect"
	"slices"
	"testing"

	"tensile/api"
	"tensile/creep"
)

func to(low, high int) creep.Range { return creep.Range{Lo: low, Hi: high} }

func of(rates ...creep.Range) creep.Material { return creep.Material{Rates: rates} }

func stay(band, low, high int) creep.Segment {
	return creep.Segment{Band: band, Hours: to(low, high)}
}

func plan(l ...creep.Segment) []creep.Segment { return l }

func run(low, high int, l ...creep.Segment) creep.Run {
	return creep.Run{Segments: l, Seen: to(low, high)}
}

func runs(l ...creep.Run) []creep.Run { return l }

// example and exampleRuns are those of the chapter.
func example() creep.Material { return of(to(1, 3), to(2, 8)) }

func exampleRuns() []creep.Run {
	return runs(run(220, 250, stay(0, 100, 100), stay(1, 10, 10)), run(90, 100, stay(1, 20, 30)))
}

// never is a run that no rates allow.
func never() creep.Run { return run(1, 1) }

type badRoom struct {
	name string
	m    creep.Material
	runs []creep.Run
	e    api.Errno
}

func badMaterials() []badRoom {
	var all []badRoom
	bad := func(name string, m creep.Material) {
		// What is wrong with the runs comes behind it.
		for _, l := range [][]creep.Run{nil, exampleRuns(), make([]creep.Run, 7), runs(run(0, 0, stay(3, 0, 0))), runs(never())} {
			all = append(all, badRoom{name, m, l, api.ErrArg})
		}
	}
	bad("no bands", of())
	bad("4 bands", of(to(0, 1), to(0, 1), to(0, 1), to(0, 1)))
	bad("many bands", creep.Material{Rates: make([]creep.Range, 100000)})
	bad("a band of nothing", of(to(3, 2)))
	bad("below 0", of(to(0, 3), to(-1, 2)))
	bad("above 1000", of(to(0, 3), to(990, 1001)))
	bad("too wide", of(to(0, 21)))
	bad("too wide, behind another", of(to(0, 5), to(4, 25), to(25, 30)))
	bad("far too wide", of(to(math.MinInt, math.MaxInt)))
	bad("far below", of(to(math.MinInt, 0)))
	bad("far above", of(to(math.MaxInt, math.MaxInt)))
	bad("its difference does not fit", of(to(math.MaxInt, math.MinInt)))
	bad("slower in the hotter band", of(to(5, 9), to(1, 4)))
	bad("slower in the hottest band", of(to(5, 9), to(1, 20), to(1, 4)))
	bad("slower in the middle", of(to(5, 9), to(1, 4), to(5, 9)))
	return all
}

func badRuns() []badRoom {
	long := run(0, 0, make([]creep.Segment, 9)...)
	m := example()
	all := []badRoom{
		{"7 runs", m, make([]creep.Run, 7), api.ErrLimit},
		{"many runs", m, make([]creep.Run, 100000), api.ErrLimit},
		{"7 runs, each with a wrong band", m, slices.Repeat(runs(run(0, 0, stay(9, 0, 0))), 7), api.ErrLimit},
		{"9 segments", m, runs(long), api.ErrLimit},
		{"9 segments behind a wrong run", m, runs(run(1, 0, stay(9, 2, 1)), long), api.ErrLimit},
		{"9 wrong segments", m, runs(run(0, 0, slices.Repeat(plan(stay(2, 0, 0)), 9)...)), api.ErrLimit},
		{"many segments", m, runs(run(0, 0, make([]creep.Segment, 100000)...)), api.ErrLimit},
		{"9 segments, and no rates", m, runs(never(), long), api.ErrLimit},
		{"wrong, and no rates", m, runs(never(), run(1, 0)), api.ErrArg},
	}
	wrong := func(name string, x creep.Run) {
		all = append(all, badRoom{name, m, runs(x), api.ErrArg}, badRoom{name + ", behind others", m, append(exampleRuns(), x), api.ErrArg})
	}
	for _, band := range []int{2, 3, -1, math.MinInt, math.MaxInt} {
		wrong("in no band", run(0, 9, stay(band, 0, 0)))
		wrong("in no band, behind another segment", run(0, 9, stay(1, 0, 0), stay(band, 1, 2)))
	}
	for _, r := range []creep.Range{to(2, 1), to(-1, 0), to(0, 1000001), to(1000001, 1000001), to(math.MinInt, math.MaxInt), to(math.MaxInt, math.MinInt)} {
		wrong("wrong hours", run(0, 9, creep.Segment{Band: 1, Hours: r}))
	}
	for _, r := range []creep.Range{to(1, 0), to(-1, 0), to(0, 10000000001), to(10000000001, 10000000001), to(math.MinInt, math.MaxInt), to(math.MaxInt, math.MinInt)} {
		wrong("wrongly seen", creep.Run{Segments: plan(stay(0, 1, 1)), Seen: r})
	}
	return all
}

// P5.1
func TestCheckMaterial(t *testing.T) {
	for _, x := range badMaterials() {
		if e := creep.CheckMaterial(x.m); e != x.e {
			t.Errorf("%s: %v", x.name, e)
		}
	}
	for _, m := range []creep.Material{
		example(), of(to(0, 0)), of(to(1000, 1000)), of(to(0, 20)), of(to(980, 1000), to(980, 1000), to(980, 1000)),
		of(to(5, 9), to(1, 5)), of(to(5, 9), to(1, 20), to(1, 5)), of(to(0, 0), to(0, 0), to(0, 0)),
	} {
		if e := creep.CheckMaterial(m); e != api.OK {
			t.Errorf("CheckMaterial of %v: %v", m, e)
		}
	}
}

// hasError holds what the calls with a room return against an error and zero values.
func hasError(t *testing.T, x badRoom, rates []int, l []creep.Segment, band, stretch int) {
	t.Helper()
	if is, e := creep.Allows(x.m, x.runs, rates); x.e != api.ErrFail && (is || e != x.e) {
		t.Errorf("%s: Allows: %v, %v", x.name, is, e)
	}
	if r, n, e := creep.Rates(x.m, x.runs); len(r)+n > 0 || e != x.e {
		t.Errorf("%s: Rates: %v, %d, %v", x.name, r, n, e)
	}
	if r, e := creep.Stretch(x.m, x.runs, l); r != to(0, 0) || e != x.e {
		t.Errorf("%s: Stretch: %v, %v", x.name, r, e)
	}
	if r, e := creep.Life(x.m, x.runs, band, stretch); r != to(0, 0) || e != x.e {
		t.Errorf("%s: Life: %v, %v", x.name, r, e)
	}
	for _, high := range []bool{false, true} {
		if r, e := creep.Shows(x.m, x.runs, l, high); len(r) > 0 || e != x.e {
			t.Errorf("%s: Shows: %v, %v", x.name, r, e)
		}
	}
	if l, e := creep.Doubtful(x.m, x.runs); x.e != api.ErrFail && (len(l) > 0 || e != x.e) {
		t.Errorf("%s: Doubtful: %v, %v", x.name, l, e)
	}
}

// R1, R2: what is wrong with the room comes before what is wrong with the rest.
func TestErrors(t *testing.T) {
	noRates := []badRoom{
		{"no rates", example(), runs(never()), api.ErrFail},
		{"no rates by two runs", example(), append(exampleRuns(), run(30, 40, stay(0, 10, 10))), api.ErrFail},
		{"no rates, too slow", of(to(3, 5)), runs(run(60, 70, stay(0, 10, 11))), api.ErrFail},
		{"no rates, too fast", of(to(3, 5)), runs(run(0, 29, stay(0, 10, 11))), api.ErrFail},
	}
	for _, x := range slices.Concat(badMaterials(), badRuns(), noRates) {
		hasError(t, x, []int{2, 3}, plan(stay(0, 1, 2)), 0, 5)
		hasError(t, x, nil, make([]creep.Segment, 9), 3, -1)
		hasError(t, x, []int{9, 1}, plan(stay(-1, 2, 1)), -1, math.MaxInt)
	}
}

// R1: the calls' own errors, behind those of the room.
func TestErrorsOfCalls(t *testing.T) {
	wrong := [][]creep.Segment{make([]creep.Segment, 9), make([]creep.Segment, 100000), {stay(0, 1, 1), stay(1, 2, 1)}}
	for _, n := range []int{2, 3, -1, math.MinInt, math.MaxInt} {
		wrong = append(wrong, plan(stay(n, 0, 0)), plan(stay(1, 5, 5), stay(n, 1, 2)))
		if r, e := creep.Life(example(), exampleRuns(), n, 5); r != to(0, 0) || e != api.ErrRange {
			t.Errorf("Life in the band %d: %v, %v", n, r, e)
		}
	}
	for _, r := range []creep.Range{to(1, 0), to(-1, 5), to(0, 1000001), to(math.MinInt, math.MaxInt), to(math.MaxInt, math.MinInt)} {
		wrong = append(wrong, plan(creep.Segment{Hours: r}))
	}
	for _, l := range wrong {
		if r, e := creep.Stretch(example(), exampleRuns(), l); r != to(0, 0) || e != api.ErrRange {
			t.Errorf("Stretch of %d segments: %v, %v", len(l), r, e)
		}
		if r, e := creep.Shows(example(), exampleRuns(), l, true); len(r) > 0 || e != api.ErrRange {
			t.Errorf("Shows of %d segments: %v, %v", len(l), r, e)
		}
	}
	for _, n := range []int{-1, 10000000001, math.MinInt, math.MaxInt} {
		if r, e := creep.Life(example(), exampleRuns(), 1, n); r != to(0, 0) || e != api.ErrRange {
			t.Errorf("Life for %d: %v, %v", n, r, e)
		}
	}
}

// P5.1
func TestAllows(t *testing.T) {
	for _, x := range []struct {
		m     creep.Material
		runs  []creep.Run
		rates []int
		want  bool
		e     api.Errno
	}{
		{example(), exampleRuns(), []int{1, 5}, false, api.OK}, {example(), exampleRuns(), []int{2, 3}, true, api.OK},
		{example(), exampleRuns(), []int{2, 5}, true, api.OK}, {example(), exampleRuns(), []int{2, 6}, false, api.OK}, {example(), exampleRuns(), []int{2, 2}, false, api.OK},
		{example(), nil, []int{1, 2}, true, api.OK}, {example(), []creep.Run{}, []int{3, 8}, true, api.OK}, {example(), runs(run(0, 0)), []int{3, 8}, true, api.OK}, {example(), runs(never()), []int{3, 8}, false, api.OK},
		{of(to(2, 5), to(2, 5)), nil, []int{4, 4}, true, api.OK}, {of(to(2, 5), to(2, 5)), nil, []int{4, 3}, false, api.ErrRange},
		{of(to(2, 5), to(2, 5), to(2, 5)), nil, []int{2, 4, 3}, false, api.ErrRange}, {of(to(2, 5), to(2, 5), to(2, 5)), nil, []int{2, 3, 5}, true, api.OK},
		{example(), exampleRuns(), nil, false, api.ErrRange}, {example(), exampleRuns(), []int{2}, false, api.ErrRange}, {example(), exampleRuns(), []int{2, 3, 3}, false, api.ErrRange}, {example(), exampleRuns(), make([]int, 100000), false, api.ErrRange},
		{example(), exampleRuns(), []int{0, 3}, false, api.ErrRange}, {example(), exampleRuns(), []int{4, 5}, false, api.ErrRange}, {example(), exampleRuns(), []int{2, 9}, false, api.ErrRange}, {example(), exampleRuns(), []int{1, 1}, false, api.ErrRange},
		{example(), runs(never()), []int{2, 9}, false, api.ErrRange}, {example(), nil, []int{math.MinInt, math.MaxInt}, false, api.ErrRange},
		// 5 makes 35 to 45, which just meets both.
		{of(to(0, 9)), runs(run(45, 50, stay(0, 7, 9))), []int{5}, true, api.OK}, {of(to(0, 9)), runs(run(46, 50, stay(0, 7, 9))), []int{5}, false, api.OK},
		{of(to(0, 9)), runs(run(30, 35, stay(0, 7, 9))), []int{5}, true, api.OK}, {of(to(0, 9)), runs(run(30, 34, stay(0, 7, 9))), []int{5}, false, api.OK},
		{of(to(0, 9)), runs(run(36, 37, stay(0, 7, 9))), []int{5}, true, api.OK}, {of(to(0, 9)), runs(run(0, 99, stay(0, 7, 9))), []int{5}, true, api.OK},
		// The same band several times.
		{of(to(0, 9)), runs(run(50, 50, stay(0, 3, 3), stay(0, 7, 7))), []int{5}, true, api.OK}, {of(to(0, 9)), runs(run(51, 51, stay(0, 3, 3), stay(0, 7, 7))), []int{5}, false, api.OK},
		// The last run forbids.
		{of(to(0, 9)), runs(run(0, 9), run(50, 50, stay(0, 10, 10)), run(51, 59, stay(0, 10, 10))), []int{5}, false, api.OK},
		// As much as there can be.
		{of(to(980, 1000)), runs(run(8000000000, 10000000000, slices.Repeat(plan(stay(0, 1000000, 1000000)), 8)...)), []int{1000}, true, api.OK},
		{of(to(980, 1000)), runs(run(8000000001, 10000000000, slices.Repeat(plan(stay(0, 1000000, 1000000)), 8)...)), []int{1000}, false, api.OK},
		{of(to(980, 1000)), runs(run(8000000000, 10000000000, slices.Repeat(plan(stay(0, 1000000, 1000000)), 8)...)), []int{999}, false, api.OK},
	} {
		if is, e := creep.Allows(x.m, x.runs, x.rates); is != x.want || e != x.e {
			t.Errorf("Allows of %v, %v: %v, %v", x.m, x.runs, is, e)
		}
	}
}

// P5.2
func TestRates(t *testing.T) {
	wide := of(to(0, 20), to(0, 20), to(0, 20))
	for _, x := range []struct {
		name string
		m    creep.Material
		runs []creep.Run
		want []creep.Range
		many int
	}{
		{"the chapter's example", example(), exampleRuns(), []creep.Range{to(2, 2), to(3, 5)}, 3},
		{"no runs", example(), nil, []creep.Range{to(1, 3), to(2, 8)}, 20},
		{"a single rate", of(to(7, 7)), nil, []creep.Range{to(7, 7)}, 1},
		{"none less than that before it", of(to(5, 9), to(1, 6)), nil, []creep.Range{to(5, 6), to(5, 6)}, 3},
		{"none less in three bands", of(to(3, 20), to(0, 20), to(0, 4)), nil, []creep.Range{to(3, 4), to(3, 4), to(3, 4)}, 4},
		{"as many as there can be", wide, nil, []creep.Range{to(0, 20), to(0, 20), to(0, 20)}, 23 * 22 * 21 / 6},
		{"all of each range", of(to(0, 20), to(20, 40), to(40, 60)), nil, []creep.Range{to(0, 20), to(20, 40), to(40, 60)}, 21 * 21 * 21},
		{"a run in one band tells of another", of(to(0, 20), to(0, 20)), runs(run(30, 30, stay(1, 10, 10))), []creep.Range{to(0, 3), to(3, 3)}, 4},
		{"a run in the colder band", of(to(0, 20), to(0, 20)), runs(run(180, 180, stay(0, 10, 10))), []creep.Range{to(18, 18), to(18, 20)}, 3},
		{"two runs with rates between that are not allowed", of(to(0, 9), to(0, 9)), runs(run(9, 9, stay(0, 1, 1), stay(1, 1, 1)), run(17, 19, stay(0, 1, 1), stay(1, 3, 3))), []creep.Range{to(4, 4), to(5, 5)}, 1},
		{"seen at nothing", of(to(0, 9)), runs(run(0, 0, stay(0, 5, 9))), []creep.Range{to(0, 0)}, 1},
		{"hours from 0", of(to(0, 9)), runs(run(0, 0, stay(0, 0, 9))), []creep.Range{to(0, 9)}, 10},
	} {
		if r, n, e := creep.Rates(x.m, x.runs); !slices.Equal(r, x.want) || n != x.many || e != api.OK {
			t.Errorf("%s: %v, %d, %v", x.name, r, n, e)
		}
	}
}

// P5.3, P5.9
func TestStretch(t *testing.T) {
	sum8 := runs(run(8, 8, stay(0, 1, 1), stay(1, 1, 1)))
	for _, x := range []struct {
		name string
		m    creep.Material
		runs []creep.Run
		plan []creep.Segment
		want creep.Range
	}{
		{"the chapter's example", example(), exampleRuns(), plan(stay(0, 1000, 1000), stay(1, 10, 20)), to(2030, 2100)},
		{"DOC.md's example", of(to(1, 3)), nil, plan(stay(0, 100, 100)), to(100, 300)},
		{"no segments", example(), exampleRuns(), nil, to(0, 0)},
		{"no hours", example(), exampleRuns(), plan(stay(1, 0, 0)), to(0, 0)},
		{"hours from 0", example(), nil, plan(stay(1, 0, 9)), to(0, 72)},
		{"what is slow in the hot band is so in the cold one", of(to(5, 9), to(1, 6)), nil, plan(stay(0, 10, 10), stay(1, 10, 10)), to(100, 120)},
		{"what makes one greater makes the other less", of(to(2, 6), to(2, 6)), sum8, plan(stay(0, 1, 1), stay(1, 2, 2)), to(12, 14)},
		{"and is made up for", of(to(2, 6), to(2, 6)), sum8, plan(stay(0, 5, 5), stay(1, 5, 5)), to(40, 40)},
		{"the ends are of different rates", of(to(2, 6), to(2, 6)), sum8, plan(stay(0, 1, 10), stay(1, 2, 2)), to(12, 48)},
		{"a band several times", of(to(2, 3)), nil, plan(stay(0, 1, 1), stay(0, 10, 20), stay(0, 100, 100)), to(222, 363)},
		{"as much as there can be", of(to(980, 1000)), nil, slices.Repeat(plan(stay(0, 1000000, 1000000)), 8), to(7840000000, 8000000000)},
	} {
		if r, e := creep.Stretch(x.m, x.runs, x.plan); r != x.want || e != api.OK {
			t.Errorf("%s: %v, %v", x.name, r, e)
		}
		isShown(t, x.m, x.runs, x.plan)
	}
}

// P5.4
func TestLife(t *testing.T) {
	if creep.Never != -1 {
		t.Errorf("Never is %d", creep.Never)
	}
	for _, x := range []struct {
		name          string
		m             creep.Material
		runs          []creep.Run
		band, stretch int
		want          creep.Range
	}{
		{"the chapter's example", example(), exampleRuns(), 1, 1000, to(200, 334)},
		{"just so many", example(), exampleRuns(), 0, 1000, to(500, 500)},
		{"one more", example(), exampleRuns(), 0, 1001, to(501, 501)},
		{"one less", example(), exampleRuns(), 0, 999, to(500, 500)},
		{"nothing", example(), exampleRuns(), 0, 0, to(0, 0)},
		{"less than an hour's", example(), exampleRuns(), 1, 1, to(1, 1)},
		{"some never", of(to(0, 2)), nil, 0, 5, to(3, creep.Never)},
		{"some never in the colder band", of(to(0, 2), to(0, 4)), runs(run(30, 40, stay(1, 10, 10))), 0, 5, to(3, creep.Never)},
		{"none never in the hotter band", of(to(0, 2), to(0, 4)), runs(run(30, 40, stay(1, 10, 10))), 1, 5, to(2, 2)},
		{"all never", of(to(0, 0)), nil, 0, 1, to(creep.Never, creep.Never)},
		{"all never, by a run", of(to(0, 9)), runs(run(0, 0, stay(0, 5, 5))), 0, 1, to(creep.Never, creep.Never)},
		{"never ruled out by a run", of(to(0, 9)), runs(run(1, 10, stay(0, 5, 5))), 0, 10, to(5, 10)},
		{"nothing by the rate 0", of(to(0, 0)), nil, 0, 0, to(0, 0)},
		{"nothing, by some rates", of(to(0, 5)), nil, 0, 0, to(0, 0)},
		{"as long as there can be", of(to(1, 3)), nil, 0, 10000000000, to(3333333334, 10000000000)},
		{"longest or never", of(to(0, 1)), nil, 0, 10000000000, to(10000000000, creep.Never)},
	} {
		if r, e := creep.Life(x.m, x.runs, x.band, x.stretch); r != x.want || e != api.OK {
			t.Errorf("%s: %v, %v", x.name, r, e)
		}
	}
}

// P5.5
func TestDoubtful(t *testing.T) {
	odd := run(30, 40, stay(0, 10, 10))
	// at is a run that a single rate allows.
	at := func(rate int) creep.Run { return run(rate, rate, stay(0, 1, 1)) }
	one := of(to(0, 9))
	for _, x := range []struct {
		name string
		m    creep.Material
		runs []creep.Run
		want []int
	}{
		{"the chapter's example", example(), append(exampleRuns(), odd), []int{0}},
		{"no runs", example(), nil, nil},
		{"rates are allowed by all", example(), exampleRuns(), nil},
		{"the one against two", example(), runs(odd, exampleRuns()[0], odd), []int{1}},
		{"one in itself", one, runs(never()), []int{0}},
		{"all of them", one, slices.Repeat(runs(never()), 6), []int{0, 1, 2, 3, 4, 5}},
		{"two in themselves", one, runs(never(), at(3), never()), []int{0, 2}},
		{"either of two", one, runs(at(3), at(4)), []int{0}},
		{"two against two", one, runs(at(3), at(4), at(3), at(4)), []int{0, 2}},
		{"two against two, in another order", one, runs(at(4), at(3), at(3), at(4)), []int{0, 3}},
		{"the fewest, though behind", one, runs(at(3), at(3), at(4)), []int{2}},
		{"three against three", one, runs(at(1), at(2), at(2), at(1), at(2), at(1)), []int{0, 3, 5}},
		{"each against each", one, runs(at(1), at(2), at(3), at(4), at(5), at(6)), []int{0, 1, 2, 3, 4}},
		{"the fewest, and the last ones stay", one, runs(at(1), at(5), at(2), at(5), at(2), at(3)), []int{0, 1, 3, 5}},
		{"no two agree on all three", one, runs(run(1, 2, stay(0, 1, 1)), run(2, 3, stay(0, 1, 1)), run(3, 4, stay(0, 1, 1))), []int{0}},
		{"slower in the hotter band", of(to(0, 9), to(0, 9)), runs(run(5, 5, stay(0, 1, 1)), run(4, 4, stay(1, 1, 1))), []int{0}},
	} {
		if l, e := creep.Doubtful(x.m, x.runs); !slices.Equal(l, x.want) || e != api.OK {
			t.Errorf("%s: %v, %v", x.name, l, e)
		}
	}
}

type answers struct {
	rates    []creep.Range
	low, top []int
	doubtful []int
}

// R4, and that nothing is kept between calls.
func TestMemory(t *testing.T) {
	m, l, p, rates := example(), exampleRuns(), plan(stay(0, 1, 2), stay(1, 5, 6)), []int{2, 3}
	contrary := append(exampleRuns(), run(30, 40, stay(0, 10, 10)), never())
	call := func() answers {
		var x answers
		x.rates, _, _ = creep.Rates(m, l)
		x.low, _ = creep.Shows(m, l, p, false)
		x.top, _ = creep.Shows(m, l, p, true)
		x.doubtful, _ = creep.Doubtful(m, contrary)
		creep.CheckMaterial(m)
		creep.Allows(m, l, rates)
		creep.Stretch(m, l, p)
		creep.Life(m, l, 0, 5)
		return x
	}
	first, second := call(), call()
	for i := range first.rates[:cap(first.rates)] {
		first.rates[:cap(first.rates)][i] = to(-7, -7)
	}
	for _, l := range [][]int{first.low, first.top, first.doubtful} {
		for i := range l[:cap(l)] {
			l[:cap(l)][i] = -7
		}
	}
	if third := call(); !reflect.DeepEqual(second, third) {
		t.Errorf("%v, behind %v", third, second)
	}
	same := reflect.DeepEqual(m, example()) && reflect.DeepEqual(l, exampleRuns()) && reflect.DeepEqual(contrary, append(exampleRuns(), run(30, 40, stay(0, 10, 10)), never()))
	if !same || !slices.Equal(p, plan(stay(0, 1, 2), stay(1, 5, 6))) || !slices.Equal(rates, []int{2, 3}) {
		t.Errorf("written to: %v, %v, %v, %v, %v", m, l, contrary, p, rates)
	}
}
