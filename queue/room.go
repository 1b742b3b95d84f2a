package queue

import (
	"iter"
	"slices"

	"tensile/api"
)

func (q Queue) standsStill(machine, hour int) bool {
	atHour := func(stop Range) bool { return stop.has(hour) }
	return slices.ContainsFunc(q.Machines[machine], atHour)
}

func (q Queue) mayBe(run, machine, hour int) bool {
	r := q.Runs[run]
	return r.On[machine] && r.Ready <= hour && !q.standsStill(machine, hour)
}

// machinesFor brings the machines on which the run may be at the hour.
func (q Queue) machinesFor(run, hour int) iter.Seq[int] {
	mayBe := q.mayBe
	return func(bring func(int) bool) {
		for machine := range q.Machines {
			if mayBe(run, machine, hour) && !bring(machine) {
				return
			}
		}
	}
}

// crew has the run that is on each machine at an hour, or Idle.
type crew [api.MaxQueueMachines]int

func nobody() crew {
	var c crew
	for machine := range c {
		c[machine] = Idle
	}
	return c
}

// atOnce returns how many of the runs, at most, may be on machines at the hour, each on another one.
func (q Queue) atOnce(runs []int, hour int) int {
	on := nobody()
	var asked [api.MaxQueueMachines]bool
	var give func(run int) bool
	give = func(run int) bool {
		for machine := range q.machinesFor(run, hour) {
			if asked[machine] {
				continue
			}
			asked[machine] = true
			if on[machine] == Idle || give(on[machine]) {
				on[machine] = run
				return true
			}
		}
		return false
	}
	many := 0
	for _, run := range runs {
		clear(asked[:])
		if give(run) {
			many++
		}
	}
	return many
}

// room returns the room of the runs up to the hour.
func (q Queue) room(runs []int, until int) int {
	all := 0
	for hour := range until {
		all += q.atOnce(runs, hour)
	}
	return all
}

// lack reports whether the runs lack something up to the hour.
func (q Queue) lack(runs []int, until int) bool {
	needed := 0
	for _, run := range runs {
		needed += q.Runs[run].Hours
	}
	return needed > q.room(runs, until)
}

// reason returns the least one of the shortest lists of runs that lack something up to the hour. Of as many runs the least list is tried first.
func (q Queue) reason(until int) []int {
	var find func(runs []int, from, more int) []int
	find = func(runs []int, from, more int) []int {
		if more == 0 && q.lack(runs, until) {
			return runs
		}
		for run := from; more > 0 && run < len(q.Runs); run++ {
			if found := find(append(slices.Clone(runs), run), run+1, more-1); found != nil {
				return found
			}
		}
		return nil
	}
	for many := range q.Runs {
		if found := find(nil, 0, many+1); found != nil {
			return found
		}
	}
	return nil
}
