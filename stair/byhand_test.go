package stair_test

import (
	"iter"
	"math"
	"math/rand/v2"
	"slices"
	"testing"

	"tensile/api"
	"tensile/stair"
)

// The functions of this file say word for word what the chapter's definitions do.

// levelsByHand returns the level of each run, as the results tell them.
func levelsByHand(s stair.Stairs, results []uint8) []int {
	var all []int
	level := s.Start
	for _, result := range results {
		all = append(all, level)
		if result == stair.Broke {
			level--
		}
		if result == stair.Held {
			level++
		}
		if level == -1 {
			level = 0
		}
		if level == s.Levels {
			level = s.Levels - 1
		}
	}
	return all
}

func isHistory(s stair.Stairs, results []uint8) bool {
	if len(results) != len(s.Runs) {
		return false
	}
	for i, level := range levelsByHand(s, results) {
		r := s.Runs[i]
		if results[i] != stair.Broke && results[i] != stair.Held && results[i] != stair.Stopped {
			return false
		}
		if r.Level != -1 && r.Level != level || r.Result != stair.Lost && r.Result != results[i] {
			return false
		}
	}
	return true
}

// lists brings all lists of so many numbers from 0 to one below the other number.
func lists(number, below int) iter.Seq[[]int] {
	return func(bring func([]int) bool) {
		list := make([]int, number)
		for {
			if !bring(list) {
				return
			}
			i := 0
			for ; i < number; i++ {
				list[i] = (list[i] + 1) % below
				if list[i] > 0 {
					break
				}
			}
			if i == number {
				return
			}
		}
	}
}

// resultLists brings all lists of so many results, of which those that are Lost may be some, too.
func resultLists(number int) iter.Seq[[]uint8] {
	return func(bring func([]uint8) bool) {
		for l := range lists(number, 4) {
			results := make([]uint8, number)
			for i, n := range l {
				results[i] = uint8(n)
			}
			if !bring(results) {
				return
			}
		}
	}
}

// historiesByHand returns the results of all histories: whatever the lost ones may have been is tried.
func historiesByHand(s stair.Stairs) [][]uint8 {
	var lost []int
	results := make([]uint8, len(s.Runs))
	for i, r := range s.Runs {
		results[i] = r.Result
		if r.Result == stair.Lost {
			lost = append(lost, i)
		}
	}
	var all [][]uint8
	for l := range lists(len(lost), 3) {
		for i, n := range l {
			results[lost[i]] = uint8(n)
		}
		if isHistory(s, results) {
			all = append(all, slices.Clone(results))
		}
	}
	return all
}

// isTruth reports whether the specimens can have these limits in a history.
func isTruth(s stair.Stairs, results []uint8, limits []int) bool {
	if !isHistory(s, results) || len(limits) != len(results) {
		return false
	}
	for i, level := range levelsByHand(s, results) {
		holds := level < limits[i]
		if limits[i] < 0 || limits[i] > s.Levels || results[i] == stair.Broke && holds || results[i] == stair.Held && !holds {
			return false
		}
	}
	return true
}

func middleByHand(s stair.Stairs, results []uint8) (middle int, some bool) {
	number := map[uint8]int{}
	for _, result := range results {
		number[result]++
	}
	event, more := stair.Broke, -1
	if number[stair.Held] < number[stair.Broke] {
		event, more = stair.Held, 1
	}
	if number[event] == 0 {
		return 0, false
	}
	sum := 0
	for i, level := range levelsByHand(s, results) {
		if results[i] == event {
			sum += 2*level + more
		}
	}
	return int(math.Floor(500 * float64(sum) / float64(number[event]))), true
}

func wider(r stair.Range, n int) stair.Range { return to(min(r.Lo, n), max(r.Hi, n)) }

func has(r stair.Range, n int) bool { return r.Lo <= n && n <= r.Hi }

// isShown asks for a truth that reaches an end of the span of the rank, and holds it against the chapter.
func isShown(t *testing.T, s stair.Stairs, k int, high bool) {
	t.Helper()
	span, _ := stair.Rank(s, k)
	due := span.Lo
	if high {
		due = span.Hi
	}
	r, l, e := stair.Shows(s, k, high)
	if e != api.OK || !isTruth(s, r, l) || !stair.ProveHistory(s, r) || slices.Sorted(slices.Values(l))[k] != due {
		t.Fatalf("Shows of %v, %d, %v: %v, %v, %v, not %d", s, k, high, r, l, e, due)
	}
}

// specimens returns limits of so many specimens, and which of their runs are stopped.
func specimens(dice *rand.Rand, number, levels int) (limits []int, stops []bool) {
	middle := dice.IntN(levels + 1)
	for range number {
		limit := middle + dice.IntN(3) - 1
		if dice.IntN(4) == 0 {
			limit = dice.IntN(levels + 1)
		}
		limits = append(limits, min(max(limit, 0), levels))
		stops = append(stops, dice.IntN(6) == 0)
	}
	return limits, stops
}

// shakeByHand returns what specimens with these limits do.
func shakeByHand(s stair.Stairs, limits []int, stops []bool) stair.Stairs {
	var results []uint8
	for i, limit := range limits {
		// The level of a run is told by the results before it: its own is not needed.
		results = append(results, stair.Stopped)
		level := levelsByHand(s, results)[i]
		if !stops[i] {
			results[i] = stair.Broke
			if level < limit {
				results[i] = stair.Held
			}
		}
		s.Runs = append(s.Runs, run(level, results[i]))
	}
	return s
}

// withLost returns the staircase, with some levels and results lost.
func withLost(dice *rand.Rand, s stair.Stairs, most int) stair.Stairs {
	s.Runs = slices.Clone(s.Runs)
	for range dice.IntN(2 * len(s.Runs)) {
		s.Runs[dice.IntN(len(s.Runs))].Level = -1
	}
	for range dice.IntN(min(most, len(s.Runs)) + 1) {
		s.Runs[dice.IntN(len(s.Runs))].Result = stair.Lost
	}
	return s
}

type shaken struct {
	limits []int
	stops  []bool
	known  stair.Stairs // nothing is lost
	stair.Stairs
}

// shakings brings staircases of at most so many levels and from one to so many runs, the same ones each time, with what their specimens did.
func shakings(number, levels, runs, lost int) iter.Seq2[*rand.Rand, shaken] {
	return func(bring func(*rand.Rand, shaken) bool) {
		dice := rand.New(rand.NewPCG(4, uint64(levels*runs)))
		for range number {
			var x shaken
			x.Levels = 1 + dice.IntN(levels)
			x.Start = dice.IntN(x.Levels)
			x.limits, x.stops = specimens(dice, 1+dice.IntN(runs), x.Levels)
			x.known = shakeByHand(x.Stairs, x.limits, x.stops)
			x.Stairs = withLost(dice, x.known, lost)
			if !bring(dice, x) {
				return
			}
		}
	}
}

// changed returns the staircase with another level or result, by which it may not be possible.
func changed(dice *rand.Rand, s stair.Stairs) stair.Stairs {
	s.Runs = slices.Clone(s.Runs)
	i := dice.IntN(len(s.Runs))
	s.Runs[i] = run(dice.IntN(s.Levels+1)-1, uint8(dice.IntN(3)))
	return s
}

// P4.1, P4.2, P4.3
func TestHistoriesByHand(t *testing.T) {
	count := map[api.Errno]int{}
	several := 0
	ask := func(s stair.Stairs) {
		all := historiesByHand(s)
		want := api.OK
		if len(all) == 0 {
			want = api.ErrFail
		}
		count[want]++
		if len(all) > 1 {
			several++
		}
		if n, e := stair.Histories(s); n != len(all) || e != want {
			t.Fatalf("Histories of %v: %d, %v, not %d, %v", s, n, e, len(all), want)
		}
		runsByHand(t, s, all)
		middlesByHand(t, s, all)
	}
	for dice, x := range shakings(3000, 8, 14, 6) {
		ask(x.Stairs)
		ask(changed(dice, x.Stairs))
	}
	for dice, x := range shakings(3000, 3, 5, 5) {
		ask(x.Stairs)
		ask(changed(dice, x.Stairs))
	}
	if count[api.OK] < 1000 || count[api.ErrFail] < 1000 || several < 1000 {
		t.Errorf("%v, %d with several histories", count, several)
	}
}

func runsByHand(t *testing.T, s stair.Stairs, all [][]uint8) {
	t.Helper()
	if len(all) == 0 {
		return
	}
	var levels []stair.Range
	var results [][]uint8
	for i, level := range levelsByHand(s, all[0]) {
		span, may := to(level, level), []uint8{}
		for _, l := range all {
			span = wider(span, levelsByHand(s, l)[i])
			may = append(may, l[i])
		}
		slices.Sort(may)
		levels, results = append(levels, span), append(results, slices.Compact(may))
	}
	l, r, e := stair.Runs(s)
	if !slices.Equal(l, levels) || !slices.EqualFunc(r, results, slices.Equal) || e != api.OK {
		t.Fatalf("Runs of %v: %v, %v, %v, not %v, %v", s, l, r, e, levels, results)
	}
}

func middlesByHand(t *testing.T, s stair.Stairs, all [][]uint8) {
	t.Helper()
	if len(all) == 0 {
		return
	}
	span, want := stair.Range{}, api.ErrNone
	for _, l := range all {
		middle, some := middleByHand(s, l)
		switch {
		case some && want == api.OK:
			span = wider(span, middle)
		case some:
			span, want = to(middle, middle), api.OK
		}
	}
	if m, e := stair.Middle(s); m != span || e != want {
		t.Fatalf("Middle of %v: %v, %v, not %v, %v", s, m, e, span, want)
	}
}

// P4.1: all lists of results of short staircases, also with results that are none.
func TestProveHistoryByHand(t *testing.T) {
	right := 0
	for dice, x := range shakings(2000, 4, 5, 5) {
		for _, s := range []stair.Stairs{x.Stairs, changed(dice, x.Stairs)} {
			for results := range resultLists(len(s.Runs)) {
				want := isHistory(s, results)
				if stair.ProveHistory(s, results) != want {
					t.Fatalf("ProveHistory of %v, %v is not %v", s, results, want)
				}
				if want {
					right++
				}
			}
		}
	}
	if right < 2000 {
		t.Errorf("%d histories", right)
	}
}

// P4.4, P4.7, P2: all truths of short staircases.
func TestRanksByHand(t *testing.T) {
	several := 0
	for _, x := range shakings(2000, 4, 4, 4) {
		s := x.Stairs
		spans := make([]stair.Range, len(s.Runs))
		for k := range spans {
			spans[k] = to(math.MaxInt, math.MinInt)
		}
		all := historiesByHand(s)
		for limits := range lists(len(s.Runs), s.Levels+1) {
			for _, results := range all {
				if !isTruth(s, results, limits) {
					continue
				}
				for k, limit := range slices.Sorted(slices.Values(limits)) {
					spans[k] = wider(spans[k], limit)
				}
			}
		}
		for k, want := range spans {
			if r, e := stair.Rank(s, k); r != want || e != api.OK {
				t.Fatalf("Rank of %v, %d: %v, %v, not %v", s, k, r, e, want)
			}
			isShown(t, s, k, false)
			isShown(t, s, k, true)
		}
		if len(all) > 1 {
			several++
		}
	}
	if several < 500 {
		t.Errorf("%d staircases with several histories", several)
	}
}

// P4.5
func TestShakeByHand(t *testing.T) {
	for _, x := range shakings(5000, 8, 14, 6) {
		if l, e := stair.Shake(x.Levels, x.Start, x.limits, x.stops); !slices.Equal(l, x.known.Runs) || e != api.OK {
			t.Fatalf("Shake of %v: %v, %v", x, l, e)
		}
	}
}
