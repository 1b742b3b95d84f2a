package stair

import (
	"slices"

	"tensile/api"
)

// span is the range of all numbers that it has taken in, if there are some.
type span struct {
	Range
	some bool
}

func (s *span) take(n int) {
	if !s.some {
		s.Range, s.some = Range{n, n}, true
	}
	s.Range = Range{min(s.Lo, n), max(s.Hi, n)}
}

func (r Range) end(high bool) int {
	if high {
		return r.Hi
	}
	return r.Lo
}

// cut returns what the other ranges leave of one.
func (r Range) cut(by ...Range) Range {
	for _, other := range by {
		r = Range{max(r.Lo, other.Lo), min(r.Hi, other.Hi)}
	}
	return r
}

// everyLimit returns the limits that specimens can have.
func (s Stairs) everyLimit() Range { return Range{0, s.Levels} }

// atMost, moreThan and nothing are what the results tell of the limit of a specimen at a level.
func (s Stairs) atMost(level int) []Range   { return []Range{{0, level}} }
func (s Stairs) moreThan(level int) []Range { return []Range{{level + 1, s.Levels}} }
func (s Stairs) nothing(int) []Range        { return nil }

// bounds returns those of the limit of a run's specimen.
func (h history) bounds(run int) Range {
	told := outcomeOf(h.results[run]).tells(h.Stairs, h.levels[run])
	return h.everyLimit().cut(told...)
}

// ends returns the greatest limits that the specimens can have, or the least ones.
func (h history) ends(high bool) []int {
	var all []int
	for run := range h.Runs {
		all = append(all, h.bounds(run).end(high))
	}
	return all
}

// end returns the greatest limit that the rank can have, or the least one: that of the rank among the greatest limits of all specimens, or the least ones.
func (h history) end(rank int, high bool) int {
	return slices.Sorted(slices.Values(h.ends(high)))[rank]
}

// limitsOf returns the span of the limit of the rank.
func (s Stairs) limitsOf(rank int) Range {
	var all span
	for h := range s.histories() {
		all.take(h.end(rank, false))
		all.take(h.end(rank, true))
	}
	return all.Range
}

// reaching returns a history in which that end of the rank is the limit.
func (s Stairs) reaching(rank, limit int, high bool) history {
	for h := range s.histories() {
		if h.end(rank, high) == limit {
			return h
		}
	}
	return history{}
}

// levelsWith returns the levels of the runs with a result.
func (h history) levelsWith(result uint8) []int {
	var all []int
	for run := range h.Runs {
		if h.results[run] == result {
			all = append(all, h.levels[run])
		}
	}
	return all
}

// halfLevel is that in thousandths of a level.
const halfLevel = 500

// middle returns that of the history, in thousandths of a level, if it has one.
func (h history) middle() (thousandths int, some bool) {
	event, more := h.levelsWith(Broke), -1
	if held := h.levelsWith(Held); len(held) < len(event) {
		event, more = held, 1
	}
	if len(event) == 0 {
		return 0, false
	}
	sum := 0
	for _, level := range event {
		sum += 2*level + more
	}
	return dividedDown(halfLevel*sum, len(event)), true
}

// dividedDown rounds down, where Go's division rounds towards 0.
func dividedDown(n, by int) int {
	if n%by < 0 {
		return n/by - 1
	}
	return n / by
}

// middles returns the span of the middle.
func (s Stairs) middles() span {
	var all span
	for h := range s.histories() {
		if n, some := h.middle(); some {
			all.take(n)
		}
	}
	return all
}

// tally tells at which levels, and with which results, a run is in some history.
type tally struct {
	levels  [api.MaxStairLevels]bool
	results [Lost]bool
}

// tallies returns one for each run.
func (s Stairs) tallies() []tally {
	all := make([]tally, len(s.Runs))
	for h := range s.histories() {
		for run := range all {
			all[run].levels[h.levels[run]] = true
			all[run].results[h.results[run]] = true
		}
	}
	return all
}

func (s Stairs) levelsOf(t tally) Range {
	var all span
	for level := range s.Levels {
		if t.levels[level] {
			all.take(level)
		}
	}
	return all.Range
}

func (t tally) allResults() []uint8 {
	return only([]uint8{Broke, Held, Stopped}, func(result uint8) bool { return t.results[result] })
}
