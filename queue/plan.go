package queue

import (
	"slices"

	"tensile/api"
)

// areRight reports whether the runs, one for each machine, may be on these at the hour.
func (q Queue) areRight(hour int, runs []int) bool {
	if len(runs) != len(q.Machines) {
		return false
	}
	for machine, run := range runs {
		if run == Idle {
			continue
		}
		if !q.hasRun(run) || !q.mayBe(run, machine, hour) || slices.Contains(runs[:machine], run) {
			return false
		}
	}
	return true
}

// isRight reports whether the plan is.
func (q Queue) isRight(plan [][]int) bool {
	if len(plan) > api.MaxQueueHours {
		return false
	}
	for hour, runs := range plan {
		if !q.areRight(hour, runs) {
			return false
		}
	}
	for run, hours := range q.ran(plan, nil) {
		if hours != q.Runs[run].Hours {
			return false
		}
	}
	return true
}

// ran returns for how many hours each run is on a machine by the plan, where it is not lost.
func (q Queue) ran(plan [][]int, losses []Loss) []int {
	isLost := map[Loss]bool{}
	for _, x := range losses {
		isLost[x] = true
	}
	hours := make([]int, len(q.Runs))
	for hour, runs := range plan {
		for machine, run := range runs {
			if run != Idle && !isLost[Loss{machine, hour}] {
				hours[run]++
			}
		}
	}
	return hours
}

// latest returns the greatest number of hours, or 0 of none.
func latest(hours ...int) int {
	last := 0
	for _, n := range hours {
		last = max(last, n)
	}
	return last
}

// end returns the plan's, as the number of hours up to the last one of each machine.
func (q Queue) end(plan [][]int) int {
	ends := make([]int, len(q.Machines))
	for hour, runs := range plan {
		for machine, run := range runs {
			if run != Idle {
				ends[machine] = hour + 1
			}
		}
	}
	return latest(ends...)
}

// rest returns what is left at the hour, in memory of its own.
func (q Queue) rest(plan [][]int, hour int, losses []Loss) Queue {
	var left Queue
	for _, stops := range q.Machines {
		left.Machines = append(left.Machines, slices.Clone(stops))
	}
	ran := q.ran(plan[:min(hour, len(plan))], losses)
	for run, r := range q.Runs {
		left.Runs = append(left.Runs, Run{r.Hours - ran[run], latest(r.Ready, hour), slices.Clone(r.On)})
	}
	return left
}
