package stair

import (
	"iter"
	"slices"

	"tensile/api"
)

// outcome is what a result does to the level, and what it tells of the specimen's limit.
type outcome struct {
	next  func(s Stairs, level int) int
	tells func(s Stairs, level int) []Range
}

func outcomeOf(result uint8) outcome {
	switch result {
	case Broke:
		return outcome{Stairs.below, Stairs.atMost}
	case Held:
		return outcome{Stairs.above, Stairs.moreThan}
	}
	return outcome{Stairs.same, Stairs.nothing}
}

func (s Stairs) below(level int) int { return max(level-1, s.everyLevel().Lo) }
func (s Stairs) above(level int) int { return min(level+1, s.everyLevel().Hi) }
func (s Stairs) same(level int) int  { return level }

// place is where a history can go on: at a run, which is at a level.
type place struct{ run, level int }

func (s Stairs) first() place { return place{0, s.Start} }

// next returns where a history goes on when the run at a place has a result.
func (s Stairs) next(at place, result uint8) place {
	return place{at.run + 1, outcomeOf(result).next(s, at.level)}
}

func (r Run) mayBeAt(level int) bool { return r.Level == lostLevel || r.Level == level }

func (r Run) mayHave(result uint8) bool { return r.isLost() || r.Result == result }

// choices returns the results that the run at a place may have.
func (s Stairs) choices(at place) []uint8 {
	r := s.Runs[at.run]
	if !r.mayBeAt(at.level) {
		return nil
	}
	return only([]uint8{Broke, Held, Stopped}, r.mayHave)
}

// allows reports whether the results are those of a history.
func (s Stairs) allows(results []uint8) bool {
	at := s.first()
	goesOn := func(result uint8) bool {
		if !slices.Contains(s.choices(at), result) {
			return false
		}
		at = s.next(at, result)
		return true
	}
	return len(results) == len(s.Runs) && each(results, goesOn)
}

// ahead returns a function that tells how many histories go on from a place. What it has counted is kept, as many histories come to the same place.
func (s Stairs) ahead() func(place) int {
	kept := map[place]int{}
	var count func(place) int
	count = func(at place) int {
		if at.run == len(s.Runs) {
			return 1
		}
		many, known := kept[at]
		if known {
			return many
		}
		for _, result := range s.choices(at) {
			many += count(s.next(at, result))
		}
		kept[at] = many
		return many
	}
	return count
}

// history is a staircase with the levels and results that its runs may have had.
type history struct {
	Stairs
	levels  [api.MaxStairRuns]int
	results [api.MaxStairRuns]uint8
}

// histories brings all of them.
func (s Stairs) histories() iter.Seq[history] {
	return func(bring func(history) bool) {
		ahead := s.ahead()
		h := history{Stairs: s}
		var goOn func(place) bool
		goOn = func(at place) bool {
			if at.run == len(s.Runs) {
				return bring(h)
			}
			more := true
			h.levels[at.run] = at.level
		search:
			for _, result := range s.choices(at) {
				h.results[at.run] = result
				switch next := s.next(at, result); {
				case ahead(next) == 0:
				case !goOn(next):
					more = false
					break search
				}
			}
			return more
		}
		goOn(s.first())
	}
}

// shake adds the runs of specimens with these limits to a staircase without runs.
func (s Stairs) shake(limits []int, stops []bool) []Run {
	at := s.first()
	for i, limit := range limits {
		result := Broke
		switch {
		case stops[i]:
			result = Stopped
		case at.level < limit:
			result = Held
		}
		s.Runs = append(s.Runs, Run{at.level, result})
		at = s.next(at, result)
	}
	return s.Runs
}
