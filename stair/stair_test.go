package stair_test

import (
	"math"
	"reflect"
	"slices"
	"testing"

	"tensile/api"
	"tensile/stair"
)

func to(low, high int) stair.Range { return stair.Range{Lo: low, Hi: high} }

func run(level int, result uint8) stair.Run { return stair.Run{Level: level, Result: result} }

func broke(level int) stair.Run { return run(level, stair.Broke) }
func held(level int) stair.Run  { return run(level, stair.Held) }
func still(level int) stair.Run { return run(level, stair.Stopped) }
func lost(level int) stair.Run  { return run(level, stair.Lost) }

func of(levels, start int, runs ...stair.Run) stair.Stairs {
	return stair.Stairs{Levels: levels, Start: start, Runs: runs}
}

func times(number int, r stair.Run) []stair.Run { return slices.Repeat([]stair.Run{r}, number) }

// example is the staircase of the chapter's section Examples.
func example() stair.Stairs { return of(4, 1, held(1), lost(2), lost(-1), broke(2)) }

type badStairs struct {
	name string
	s    stair.Stairs
	e    api.Errno
}

// badOnes are staircases that are not valid, with their errors.
func badOnes() []badStairs {
	all := []badStairs{
		{"nothing", stair.Stairs{}, api.ErrArg},
		{"15 runs", of(4, 1, times(15, still(1))...), api.ErrLimit},
		{"15 runs that are not valid", of(4, 1, times(15, run(9, 9))...), api.ErrLimit},
		{"15 runs, and no levels", of(0, 9, times(15, still(1))...), api.ErrLimit},
		{"many runs", of(4, 1, times(100000, still(1))...), api.ErrLimit},
		{"7 lost results", of(4, 1, times(7, lost(1))...), api.ErrLimit},
		{"7 lost results, and no levels", of(0, 9, times(7, lost(-1))...), api.ErrLimit},
		{"7 lost results, and a run that is not valid", of(4, 1, append(times(7, lost(1)), run(1, 4))...), api.ErrLimit},
	}
	for _, n := range []int{0, -1, 9, math.MinInt, math.MaxInt} {
		all = append(all, badStairs{"levels", of(n, 0), api.ErrArg}, badStairs{"levels", of(n, n-1), api.ErrArg})
	}
	for _, n := range []int{-1, 4, -2, math.MinInt, math.MaxInt} {
		all = append(all, badStairs{"start", of(4, n), api.ErrArg})
	}
	for _, n := range []int{-2, 4, 8, math.MinInt, math.MaxInt} {
		all = append(all, badStairs{"level", of(4, 1, held(1), held(n)), api.ErrArg}, badStairs{"level of a lost run", of(4, 1, lost(n), held(1)), api.ErrArg})
	}
	for _, n := range []uint8{4, 5, 255} {
		all = append(all, badStairs{"result", of(4, 1, held(1), run(2, n)), api.ErrArg}, badStairs{"result", of(4, 1, run(-1, n), held(-1)), api.ErrArg})
	}
	return all
}

// impossible are valid staircases without histories.
func impossible() []badStairs {
	all := []stair.Stairs{
		of(4, 1, held(0)), of(4, 1, lost(2)), of(4, 1, still(1), held(2)), of(4, 1, held(1), broke(1)), of(4, 1, broke(1), held(1)), of(4, 1, broke(1), held(2)),
		of(4, 0, broke(0), broke(1)), of(4, 3, held(3), held(2)),
		of(4, 0, lost(0), lost(-1), held(3)), of(8, 3, lost(-1), lost(-1), lost(7)), of(5, 2, lost(-1), still(-1), lost(-1), broke(0), broke(1)),
	}
	var bad []badStairs
	for _, s := range all {
		bad = append(bad, badStairs{"not possible", s, api.ErrFail})
	}
	return bad
}

// P4.1
func TestCheckStairs(t *testing.T) {
	for _, x := range badOnes() {
		if e := stair.CheckStairs(x.s); e != x.e {
			t.Errorf("%s: CheckStairs of %v: %v", x.name, x.s, e)
		}
	}
	// What is not possible is valid all the same.
	for _, x := range impossible() {
		if e := stair.CheckStairs(x.s); e != api.OK {
			t.Errorf("CheckStairs of %v: %v", x.s, e)
		}
	}
	for _, s := range []stair.Stairs{
		example(), of(1, 0), of(8, 7), of(8, 0, []stair.Run{}...), of(8, 7, lost(7), lost(0), lost(-1), broke(-1)),
		of(4, 1, times(14, still(-1))...), of(4, 1, times(6, lost(-1))...), of(4, 1, append(times(6, lost(3)), times(8, held(-1))...)...),
	} {
		if e := stair.CheckStairs(s); e != api.OK {
			t.Errorf("CheckStairs of %v: %v", s, e)
		}
	}
}

// R1, R2, and what all calls with a staircase answer to one that is not valid, or not possible.
func TestErrors(t *testing.T) {
	for _, x := range append(badOnes(), impossible()...) {
		if n, e := stair.Histories(x.s); n != 0 || e != x.e {
			t.Errorf("%s: Histories of %v: %d, %v", x.name, x.s, n, e)
		}
		if l, r, e := stair.Runs(x.s); len(l)+len(r) > 0 || e != x.e {
			t.Errorf("%s: Runs of %v: %v, %v, %v", x.name, x.s, l, r, e)
		}
		if m, e := stair.Middle(x.s); m != to(0, 0) || e != x.e {
			t.Errorf("%s: Middle of %v: %v, %v", x.name, x.s, m, e)
		}
		for _, k := range []int{0, -1, len(x.s.Runs), math.MinInt, math.MaxInt} {
			if r, e := stair.Rank(x.s, k); r != to(0, 0) || e != x.e {
				t.Errorf("%s: Rank of %v, %d: %v, %v", x.name, x.s, k, r, e)
			}
			for _, high := range []bool{false, true} {
				if r, l, e := stair.Shows(x.s, k, high); len(r)+len(l) > 0 || e != x.e {
					t.Errorf("%s: Shows of %v, %d, %v: %v, %v, %v", x.name, x.s, k, high, r, l, e)
				}
			}
		}
		var results []uint8
		for _, r := range x.s.Runs {
			results = append(results, r.Result)
		}
		for _, l := range [][]uint8{nil, results, make([]uint8, len(results)), slices.Repeat([]uint8{stair.Stopped}, len(results))} {
			if stair.ProveHistory(x.s, l) {
				t.Errorf("%s: ProveHistory of %v, %v", x.name, x.s, l)
			}
		}
	}
	// Behind ErrFail.
	for _, s := range []stair.Stairs{example(), of(4, 1), of(4, 1, times(14, still(1))...)} {
		for _, k := range []int{-1, len(s.Runs), len(s.Runs) + 1, math.MinInt, math.MaxInt} {
			if r, e := stair.Rank(s, k); r != to(0, 0) || e != api.ErrRange {
				t.Errorf("Rank of %v, %d: %v, %v", s, k, r, e)
			}
			if r, l, e := stair.Shows(s, k, true); len(r)+len(l) > 0 || e != api.ErrRange {
				t.Errorf("Shows of %v, %d: %v, %v, %v", s, k, r, l, e)
			}
		}
	}
}

// P4.1
func TestHistories(t *testing.T) {
	for _, x := range []struct {
		name string
		s    stair.Stairs
		want int
	}{
		{"the chapter's example", example(), 3},
		{"no runs", of(4, 1), 1},
		{"nothing lost", of(4, 1, held(1), broke(2), still(1), broke(1), held(0)), 1},
		{"levels lost alone", of(4, 1, held(-1), broke(-1), still(-1), broke(-1), held(-1)), 1},
		{"a result lost, told by the next level", of(4, 1, lost(1), held(0)), 1},
		{"nothing known", of(8, 3, times(6, lost(-1))...), 729},
		{"a single level", of(1, 0, times(6, lost(0))...), 729},
		{"the levels known, and all stopped", of(4, 1, times(6, lost(1))...), 3},
		{"at the lowest level", of(3, 0, lost(0), lost(0)), 2 * 3},
		{"at the highest level", of(3, 2, lost(2), lost(2)), 2 * 3},
		{"staying at the lowest level", of(3, 0, lost(-1), lost(-1), held(0)), 4 + 1},
		{"staying at the highest level", of(3, 2, lost(-1), lost(-1), broke(2)), 4 + 1},
		{"14 runs", of(4, 1, append(append(times(4, still(-1)), times(6, lost(-1))...), times(4, held(-1))...)...), 729},
		{"broken at the lowest level", of(2, 0, broke(0), broke(0), held(0), broke(1)), 1},
		{"held at the highest level", of(2, 1, held(1), held(1), broke(1), held(0)), 1},
	} {
		if n, e := stair.Histories(x.s); n != x.want || e != api.OK {
			t.Errorf("%s: Histories of %v: %d, %v", x.name, x.s, n, e)
		}
	}
}

// P4.1, R11
func TestProveHistory(t *testing.T) {
	for _, x := range []struct {
		s       stair.Stairs
		results []uint8
		want    bool
	}{
		{example(), []uint8{1, 0, 1, 0}, true}, {example(), []uint8{1, 1, 0, 0}, true}, {example(), []uint8{1, 2, 2, 0}, true},
		{example(), []uint8{1, 0, 2, 0}, false}, {example(), []uint8{1, 2, 1, 0}, false}, {example(), []uint8{2, 0, 1, 0}, false}, {example(), []uint8{1, 2, 2, 1}, false},
		{example(), nil, false}, {example(), []uint8{1, 0, 1}, false}, {example(), []uint8{1, 0, 1, 0, 0}, false},
		{example(), []uint8{1, 3, 1, 0}, false}, {example(), []uint8{1, 3, 3, 0}, false}, {example(), []uint8{1, 255, 2, 0}, false},
		{of(4, 1), nil, true}, {of(4, 1), []uint8{}, true}, {of(4, 1), []uint8{0}, false},
		{of(4, 1, lost(1)), []uint8{3}, false}, {of(4, 1, lost(1)), []uint8{4}, false}, {of(4, 1, lost(1)), []uint8{2}, true}, {of(4, 1, lost(0)), []uint8{2}, false},
		{of(4, 1, held(1)), make([]uint8, 100000), false},
	} {
		if stair.ProveHistory(x.s, x.results) != x.want {
			t.Errorf("ProveHistory of %v, %v", x.s, x.results)
		}
	}
}

// P4.2
func TestRuns(t *testing.T) {
	free := []uint8{stair.Broke, stair.Held, stair.Stopped}
	for _, x := range []struct {
		name    string
		s       stair.Stairs
		levels  []stair.Range
		results [][]uint8
	}{
		{"the chapter's example", example(), []stair.Range{to(1, 1), to(2, 2), to(1, 3), to(2, 2)}, [][]uint8{{1}, free, free, {0}}},
		{"no runs", of(4, 1), nil, nil},
		{"who broke was a level higher", of(4, 2, lost(-1), held(1)), []stair.Range{to(2, 2), to(1, 1)}, [][]uint8{{0}, {1}}},
		{"a wide one", of(8, 4, lost(-1), lost(-1), lost(-1), lost(-1)), []stair.Range{to(4, 4), to(3, 5), to(2, 6), to(1, 7)}, [][]uint8{free, free, free, free}},
		{"its ends", of(3, 1, lost(-1), lost(-1), lost(-1), still(-1)), []stair.Range{to(1, 1), to(0, 2), to(0, 2), to(0, 2)}, [][]uint8{free, free, free, {2}}},
		{"two of three results", of(3, 0, lost(-1), lost(0), still(0)), []stair.Range{to(0, 0), to(0, 0), to(0, 0)}, [][]uint8{{0, 2}, {0, 2}, {2}}},
		{"levels that are known from behind", of(8, 4, lost(-1), held(-1), held(-1), held(7)), []stair.Range{to(4, 4), to(5, 5), to(6, 6), to(7, 7)}, [][]uint8{{1}, {1}, {1}, {1}}},
	} {
		l, r, e := stair.Runs(x.s)
		if !slices.Equal(l, x.levels) || !slices.EqualFunc(r, x.results, slices.Equal) || e != api.OK {
			t.Errorf("%s: Runs of %v: %v, %v, %v", x.name, x.s, l, r, e)
		}
	}
}

// P4.3
func TestMiddle(t *testing.T) {
	for _, x := range []struct {
		name string
		s    stair.Stairs
		want stair.Range
		e    api.Errno
	}{
		{"the chapter's example", example(), to(1500, 2000), api.OK},
		{"fewer broke", of(4, 1, held(1), broke(2), held(1), held(2), held(3)), to(1500, 1500), api.OK},
		{"fewer held", of(4, 1, broke(1), held(0), broke(1), broke(0)), to(500, 500), api.OK},
		{"as many", of(4, 1, held(1), broke(2), held(1), broke(2)), to(1500, 1500), api.OK},
		{"as many, at levels far from each other", of(4, 0, broke(0), held(0), still(1), broke(1), broke(0), held(0), held(1)), to(-167, -167), api.OK},
		{"rounded down", of(8, 2, held(2), held(3), broke(4), held(3), broke(4), held(3), held(4), broke(5)), to(3833, 3833), api.OK},
		{"rounded down below 0", of(3, 0, broke(0), broke(0), held(0), broke(1), held(0), held(1), held(2)), to(-167, -167), api.OK},
		{"not rounded, below 0", of(3, 0, broke(0), held(0)), to(-500, -500), api.OK},
		{"0", of(3, 0, broke(0), held(0), broke(1), held(0)), to(0, 0), api.OK},
		{"no runs", of(3, 1), to(0, 0), api.ErrNone},
		{"all stopped", of(3, 1, times(14, still(1))...), to(0, 0), api.ErrNone},
		{"all broke", of(3, 1, broke(1), broke(0), broke(0)), to(0, 0), api.ErrNone},
		{"all held, one stopped", of(3, 1, held(1), still(2), held(2)), to(0, 0), api.ErrNone},
		{"some histories alone have one", of(3, 0, held(0), lost(1)), to(500, 500), api.OK},
		{"lost, and none has one", of(3, 1, lost(-1)), to(0, 0), api.ErrNone},
		{"on both sides of 0", of(3, 1, lost(-1), lost(-1)), to(500, 1500), api.OK},
		{"below 0 up to above it", of(3, 0, lost(-1), lost(-1)), to(-500, 500), api.OK},
	} {
		if m, e := stair.Middle(x.s); m != x.want || e != x.e {
			t.Errorf("%s: Middle of %v: %v, %v", x.name, x.s, m, e)
		}
	}
}

// P4.4
func TestRank(t *testing.T) {
	for _, x := range []struct {
		name string
		s    stair.Stairs
		want []stair.Range
	}{
		{"the chapter's example", example(), []stair.Range{to(0, 2), to(0, 4), to(0, 4), to(2, 4)}},
		{"broken at the lowest level", of(4, 0, broke(0)), []stair.Range{to(0, 0)}},
		{"held at the highest level", of(4, 3, held(3)), []stair.Range{to(4, 4)}},
		{"a single level", of(1, 0, broke(0), held(0), still(0)), []stair.Range{to(0, 0), to(0, 1), to(1, 1)}},
		{"stopped", of(6, 2, still(2), still(2)), []stair.Range{to(0, 6), to(0, 6)}},
		{"lost", of(6, 2, lost(2)), []stair.Range{to(0, 6)}},
		{"known by the next level", of(6, 2, lost(2), held(3)), []stair.Range{to(3, 6), to(4, 6)}},
		{"in rising order", of(6, 2, held(2), held(3), broke(4), broke(3), still(2)), []stair.Range{to(0, 3), to(0, 4), to(0, 6), to(3, 6), to(4, 6)}},
		{"several histories", of(6, 2, lost(2), lost(-1), broke(2)), []stair.Range{to(0, 2), to(0, 6), to(0, 6)}},
	} {
		for k, want := range x.want {
			r, e := stair.Rank(x.s, k)
			if r != want || e != api.OK {
				t.Errorf("%s: Rank of %v, %d: %v, %v", x.name, x.s, k, r, e)
			}
			for _, high := range []bool{false, true} {
				isShown(t, x.s, k, high)
			}
		}
	}
}

// P4.5
func TestShake(t *testing.T) {
	no := make([]bool, 14)
	all := slices.Repeat([]bool{true}, 14)
	for _, x := range []struct {
		name          string
		levels, start int
		limits        []int
		stops         []bool
		want          []stair.Run
		e             api.Errno
	}{
		{"the chapter's example", 4, 1, []int{2, 2, 4, 0}, []bool{false, false, true, false}, []stair.Run{held(1), broke(2), still(1), broke(1)}, api.OK},
		{"at the lowest level", 2, 0, []int{0, 0, 2}, no[:3], []stair.Run{broke(0), broke(0), held(0)}, api.OK},
		{"at the highest level", 2, 1, []int{2, 2, 0}, no[:3], []stair.Run{held(1), held(1), broke(1)}, api.OK},
		{"a limit that is the level", 4, 2, []int{2, 2, 2}, no[:3], []stair.Run{broke(2), held(1), broke(2)}, api.OK},
		{"a single level", 1, 0, []int{0, 1, 1}, []bool{false, false, true}, []stair.Run{broke(0), held(0), still(0)}, api.OK},
		{"no specimens", 4, 1, nil, nil, nil, api.OK},
		{"no specimens", 4, 1, []int{}, []bool{}, nil, api.OK},
		{"14 specimens", 8, 7, make([]int, 14), all, times(14, still(7)), api.OK},
		{"no levels", 0, 0, nil, nil, nil, api.ErrArg}, {"9 levels", 9, 0, nil, nil, nil, api.ErrArg}, {"the least number", math.MinInt, 0, nil, nil, nil, api.ErrArg}, {"the greatest one", math.MaxInt, 0, nil, nil, nil, api.ErrArg},
		{"start above", 4, 4, nil, nil, nil, api.ErrArg}, {"start below", 4, -1, nil, nil, nil, api.ErrArg}, {"start far above", 4, math.MaxInt, nil, nil, nil, api.ErrArg},
		{"no levels, and too many", 0, 0, make([]int, 15), no, nil, api.ErrArg}, {"start above, and a bad limit", 4, 4, []int{5}, nil, nil, api.ErrArg},
		{"too many", 4, 1, make([]int, 15), make([]bool, 15), nil, api.ErrLimit}, {"too many, and bad limits", 4, 1, slices.Repeat([]int{9}, 15), no, nil, api.ErrLimit}, {"far too many", 4, 1, make([]int, 100000), nil, nil, api.ErrLimit},
		{"a stop less", 4, 1, []int{1, 2}, no[:1], nil, api.ErrRange}, {"a stop more", 4, 1, []int{1, 2}, no[:3], nil, api.ErrRange}, {"stops alone", 4, 1, nil, no[:1], nil, api.ErrRange}, {"many stops", 4, 1, []int{1}, make([]bool, 100), nil, api.ErrRange},
		{"a limit below 0", 4, 1, []int{1, -1}, no[:2], nil, api.ErrRange}, {"a limit above all levels", 4, 1, []int{5, 1}, no[:2], nil, api.ErrRange},
		{"the limit of one that is stopped", 4, 1, []int{5}, all[:1], nil, api.ErrRange}, {"far below", 4, 1, []int{math.MinInt}, no[:1], nil, api.ErrRange}, {"far above", 4, 1, []int{math.MaxInt}, no[:1], nil, api.ErrRange},
	} {
		if l, e := stair.Shake(x.levels, x.start, x.limits, x.stops); !slices.Equal(l, x.want) || e != x.e {
			t.Errorf("%s: Shake of %d, %d, %v, %v: %v, %v", x.name, x.levels, x.start, x.limits, x.stops, l, e)
		}
	}
}

type answers struct {
	levels  []stair.Range
	results [][]uint8
	shown   []uint8
	limits  []int
	shaken  []stair.Run
}

// R4, and that nothing is kept between calls.
func TestMemory(t *testing.T) {
	s, limits, stops, results := example(), []int{2, 2, 4, 0}, []bool{false, false, true, false}, []uint8{1, 0, 1, 0}
	call := func() answers {
		var x answers
		x.levels, x.results, _ = stair.Runs(s)
		x.shown, x.limits, _ = stair.Shows(s, 1, true)
		x.shaken, _ = stair.Shake(4, 1, limits, stops)
		stair.CheckStairs(s)
		stair.ProveHistory(s, results)
		stair.Histories(s)
		stair.Middle(s)
		stair.Rank(s, 0)
		return x
	}
	first, second := call(), call()
	before := slices.Clone(first.results[1])
	for i := range first.levels[:cap(first.levels)] {
		first.levels[:cap(first.levels)][i] = to(-7, -7)
	}
	for i := range first.shaken[:cap(first.shaken)] {
		first.shaken[:cap(first.shaken)][i] = run(-7, 7)
	}
	for i := range first.limits[:cap(first.limits)] {
		first.limits[:cap(first.limits)][i] = -7
	}
	for _, l := range [][]uint8{first.shown, first.results[0], first.results[2], first.results[3]} {
		for i := range l[:cap(l)] {
			l[:cap(l)][i] = 7
		}
	}
	if !slices.Equal(first.results[1], before) {
		t.Errorf("results share memory: %v", first.results)
	}
	if !reflect.DeepEqual(second, call()) {
		t.Errorf("after results were written to: %v", second)
	}
	if !reflect.DeepEqual(s, example()) || !slices.Equal(limits, []int{2, 2, 4, 0}) || !slices.Equal(stops, []bool{false, false, true, false}) || !slices.Equal(results, []uint8{1, 0, 1, 0}) {
		t.Errorf("arguments were written to: %v, %v, %v, %v", s, limits, stops, results)
	}
}
