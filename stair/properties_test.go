package stair_test

import (
	"math"
	"math/rand/v2"
	"slices"
	"testing"

	"tensile/api"
	"tensile/stair"
)

// told is all that the program tells of a possible staircase.
type told struct {
	many    int
	levels  []stair.Range
	results [][]uint8
	middle  stair.Range
	none    api.Errno // of the middle
	ranks   []stair.Range
}

func tell(t *testing.T, s stair.Stairs) told {
	t.Helper()
	var x told
	var e, f api.Errno
	x.many, e = stair.Histories(s)
	x.levels, x.results, f = stair.Runs(s)
	if e != api.OK || f != api.OK || x.many < 1 {
		t.Fatalf("%v is not possible: %d, %v, %v", s, x.many, e, f)
	}
	x.middle, x.none = stair.Middle(s)
	for k := range s.Runs {
		r, e := stair.Rank(s, k)
		if e != api.OK {
			t.Fatalf("Rank of %v, %d: %v", s, k, e)
		}
		x.ranks = append(x.ranks, r)
	}
	return x
}

func resultsOf(s stair.Stairs) []uint8 {
	var all []uint8
	for _, r := range s.Runs {
		all = append(all, r.Result)
	}
	return all
}

// P4.6, P7
func TestWhateverWasLost(t *testing.T) {
	middles := 0
	for _, x := range shakings(1000, 8, 14, 6) {
		all := tell(t, x.Stairs)
		if did := resultsOf(x.known); !stair.ProveHistory(x.Stairs, did) {
			t.Fatalf("%v did %v", x.Stairs, did)
		}
		for i, r := range x.known.Runs {
			if !has(all.levels[i], r.Level) || !slices.Contains(all.results[i], r.Result) {
				t.Fatalf("the run %d of %v: %v, %v, not %v", i, x.Stairs, all.levels[i], all.results[i], r)
			}
		}
		if m, e := stair.Middle(x.known); e == api.OK {
			middles++
			if m.Lo != m.Hi || all.none != api.OK || !has(all.middle, m.Lo) {
				t.Fatalf("Middle of %v: %v, %v, not %v", x.Stairs, all.middle, all.none, m)
			}
		}
		for k, limit := range slices.Sorted(slices.Values(x.limits)) {
			if !has(all.ranks[k], limit) {
				t.Fatalf("the rank %d of %v: %v, not %d of %v", k, x.Stairs, all.ranks[k], limit, x.limits)
			}
		}
	}
	if middles < 300 {
		t.Errorf("%d middles", middles)
	}
}

// P4.7
func TestEndsAreReached(t *testing.T) {
	for _, x := range shakings(500, 8, 14, 6) {
		for k := range x.Runs {
			isShown(t, x.Stairs, k, false)
			isShown(t, x.Stairs, k, true)
		}
	}
}

// isWider reports whether all that is told has what was told before.
func isWider(before, behind told) bool {
	within := func(a, b []stair.Range) bool {
		return slices.EqualFunc(a, b, func(a, b stair.Range) bool { return b.Lo <= a.Lo && a.Hi <= b.Hi })
	}
	fits := behind.many >= before.many && within(before.levels, behind.levels) && within(before.ranks, behind.ranks)
	for i, l := range before.results {
		for _, result := range l {
			fits = fits && slices.Contains(behind.results[i], result)
		}
	}
	if before.none == api.OK {
		fits = fits && behind.none == api.OK && behind.middle.Lo <= before.middle.Lo && before.middle.Hi <= behind.middle.Hi
	}
	return fits
}

// P4.8
func TestOneMoreIsLost(t *testing.T) {
	more := 0
	for dice, x := range shakings(1000, 8, 14, 5) {
		s := x.Stairs
		s.Runs = slices.Clone(s.Runs)
		i := dice.IntN(len(s.Runs))
		if dice.IntN(2) == 0 {
			s.Runs[i].Level = -1
		} else {
			s.Runs[i].Result = stair.Lost
		}
		before, behind := tell(t, x.Stairs), tell(t, s)
		if !isWider(before, behind) {
			t.Fatalf("%v: %v; %v: %v", x.Stairs, before, s, behind)
		}
		if behind.many > before.many {
			more++
		}
	}
	if more < 100 {
		t.Errorf("%d have more histories", more)
	}
}

// P4.8
func TestOneHistoryAtMost(t *testing.T) {
	count := map[int]int{}
	for dice, x := range shakings(2000, 8, 14, 0) {
		for _, s := range []stair.Stairs{x.known, x.Stairs, changed(dice, x.Stairs)} {
			n, e := stair.Histories(s)
			if n > 1 || n == 1 != (e == api.OK) || n == 0 != (e == api.ErrFail) {
				t.Fatalf("Histories of %v: %d, %v", s, n, e)
			}
			count[n]++
		}
	}
	if count[0] < 100 || count[1] < 4000 {
		t.Errorf("%v", count)
	}
}

// P4.9
func TestRanksRise(t *testing.T) {
	for _, x := range shakings(1000, 8, 14, 6) {
		all := tell(t, x.Stairs).ranks
		for k := 1; k < len(all); k++ {
			if all[k].Lo < all[k-1].Lo || all[k].Hi < all[k-1].Hi {
				t.Fatalf("the ranks of %v: %v", x.Stairs, all)
			}
		}
	}
	for levels := 1; levels <= api.MaxStairLevels; levels++ {
		for start := range levels {
			s := of(levels, start, times(1+(levels*start)%api.MaxStairRuns, still(start))...)
			for k, r := range tell(t, s).ranks {
				if r != to(0, levels) {
					t.Fatalf("Rank of %v, %d: %v", s, k, r)
				}
			}
		}
	}
}

// P4.10
func TestOneMoreRun(t *testing.T) {
	for _, x := range shakings(1000, 8, 13, 5) {
		s := x.Stairs
		s.Runs = append(slices.Clone(s.Runs), lost(-1))
		before, behind := tell(t, x.Stairs), tell(t, s)
		if behind.many != 3*before.many {
			t.Fatalf("%v has %d histories, %v %d", x.Stairs, before.many, s, behind.many)
		}
	}
}

// withStopped returns the staircase with a stopped run before another one, or behind all.
func withStopped(s stair.Stairs, at, level int) stair.Stairs {
	s.Runs = slices.Insert(slices.Clone(s.Runs), at, still(level))
	return s
}

// P4.11
func TestStopped(t *testing.T) {
	isSame := func(s, with stair.Stairs, at int) {
		t.Helper()
		before, behind := tell(t, s), tell(t, with)
		levels, results := slices.Delete(slices.Clone(behind.levels), at, at+1), slices.Delete(slices.Clone(behind.results), at, at+1)
		if before.many != behind.many || before.middle != behind.middle || before.none != behind.none {
			t.Fatalf("%v: %v; %v: %v", s, before, with, behind)
		}
		if !slices.Equal(levels, before.levels) || !slices.EqualFunc(results, before.results, slices.Equal) {
			t.Fatalf("%v: %v; %v: %v", s, before, with, behind)
		}
	}
	for dice, x := range shakings(1000, 8, 13, 6) {
		// The last one of these levels is that of a run behind all.
		levels := levelsByHand(x.Stairs, append(resultsOf(x.known), stair.Stopped))
		at := dice.IntN(len(levels))
		isSame(x.known, withStopped(x.known, at, levels[at]), at)
		if at < len(x.Runs) {
			isSame(x.Stairs, withStopped(x.Stairs, at, x.Runs[at].Level), at)
		} else {
			isSame(x.Stairs, withStopped(x.Stairs, at, -1), at)
		}
	}
}

func turnedResult(result uint8) uint8 {
	switch result {
	case stair.Broke:
		return stair.Held
	case stair.Held:
		return stair.Broke
	}
	return result
}

func turned(s stair.Stairs) stair.Stairs {
	s.Start = s.Levels - 1 - s.Start
	s.Runs = slices.Clone(s.Runs)
	for i, r := range s.Runs {
		s.Runs[i].Result = turnedResult(r.Result)
		if r.Level != -1 {
			s.Runs[i].Level = s.Levels - 1 - r.Level
		}
	}
	return s
}

// turnedRange returns a range of numbers of which the least is 0, turned round.
func turnedRange(r stair.Range, greatest int) stair.Range { return to(greatest-r.Hi, greatest-r.Lo) }

// P4.12
func TestUpsideDown(t *testing.T) {
	for _, x := range shakings(1000, 8, 14, 6) {
		all, other := tell(t, x.Stairs), tell(t, turned(x.Stairs))
		if all.many != other.many {
			t.Fatalf("%v has %d histories, turned %d", x.Stairs, all.many, other.many)
		}
		for i := range x.Runs {
			var results []uint8
			for _, result := range all.results[i] {
				results = append(results, turnedResult(result))
			}
			slices.Sort(results)
			if other.levels[i] != turnedRange(all.levels[i], x.Levels-1) || !slices.Equal(other.results[i], results) {
				t.Fatalf("the run %d of %v: %v, %v, turned %v, %v", i, x.Stairs, all.levels[i], all.results[i], other.levels[i], other.results[i])
			}
			if k := len(x.Runs) - 1 - i; other.ranks[k] != turnedRange(all.ranks[i], x.Levels) {
				t.Fatalf("the rank %d of %v: %v, turned %v", i, x.Stairs, all.ranks[i], other.ranks[k])
			}
		}
	}
}

// P1
func TestAnyArguments(t *testing.T) {
	dice := rand.New(rand.NewPCG(1, 1))
	wild := func() int {
		return []int{math.MinInt, math.MaxInt, -2, -1, 0, 1, 2, 3, 7, 8, 9, 14, 15}[dice.IntN(13)]
	}
	rarely := func(n int) int {
		if dice.IntN(12) == 0 {
			return wild()
		}
		return n
	}
	for range 20000 {
		s := of(rarely(1+dice.IntN(4)), rarely(0))
		var results []uint8
		var limits []int
		var stops []bool
		for range dice.IntN(16) {
			s.Runs = append(s.Runs, run(rarely(-1), uint8(rarely(dice.IntN(4)))))
			results = append(results, uint8(rarely(dice.IntN(3))))
			limits, stops = append(limits, rarely(0)), append(stops, dice.IntN(2) == 0)
		}
		if dice.IntN(12) == 0 {
			stops = append(stops, false)
		}
		stair.CheckStairs(s)
		stair.ProveHistory(s, results)
		stair.Histories(s)
		stair.Runs(s)
		stair.Middle(s)
		stair.Rank(s, rarely(0))
		stair.Shows(s, rarely(0), dice.IntN(2) == 0)
		stair.Shake(s.Levels, s.Start, limits, stops)
	}
}
