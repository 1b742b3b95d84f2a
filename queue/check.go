package queue

import "tensile/api"

// each reports whether all elements of a list pass a test.
func each[T any](list []T, passes func(T) bool) bool {
	for _, x := range list {
		if !passes(x) {
			return false
		}
	}
	return true
}

func (r Range) has(n int) bool { return r.Lo <= n && n <= r.Hi }

// isNumber reports whether a number of hours is one that a queue may have.
func isNumber(hours int) bool { return Range{0, api.MaxQueueHours}.has(hours) }

func isHour(n int) bool { return Range{0, api.MaxQueueHours - 1}.has(n) }

func isStop(r Range) bool { return isHour(r.Lo) && isHour(r.Hi) && r.Lo <= r.Hi }

func isFew(stops []Range) bool { return len(stops) <= api.MaxQueueStops }

func areStops(stops []Range) bool { return each(stops, isStop) }

func (q Queue) hasMachine(machine int) bool { return 0 <= machine && machine < len(q.Machines) }

func (q Queue) hasRun(run int) bool { return 0 <= run && run < len(q.Runs) }

func (q Queue) isRun(r Run) bool {
	return isNumber(r.Hours) && isNumber(r.Ready) && len(r.On) == len(q.Machines)
}

func (q Queue) isShort() bool {
	return len(q.Machines) <= api.MaxQueueMachines && len(q.Runs) <= api.MaxQueueRuns && each(q.Machines, isFew)
}

func (q Queue) check() api.Errno {
	switch {
	case !q.isShort():
		return api.ErrLimit
	case !each(q.Machines, areStops) || !each(q.Runs, q.isRun):
		return api.ErrArg
	}
	return api.OK
}

// isRising reports whether each number is greater than the one before it.
func isRising(list []int) bool {
	for i := 1; i < len(list); i++ {
		if list[i] <= list[i-1] {
			return false
		}
	}
	return true
}

// checkRuns holds a list of runs, and an hour, against the queue, as well.
func (q Queue) checkRuns(runs []int, hour int) api.Errno {
	if e := q.check(); e != api.OK {
		return e
	}
	if !each(runs, q.hasRun) || !isRising(runs) || !isNumber(hour) {
		return api.ErrRange
	}
	return api.OK
}

func (q Queue) isLoss(x Loss) bool { return q.hasMachine(x.Machine) && isHour(x.Hour) }

// checkCut holds a plan, an hour and losses against the queue, as well.
func (q Queue) checkCut(plan [][]int, hour int, losses []Loss) api.Errno {
	if e := q.check(); e != api.OK {
		return e
	}
	if !q.isRight(plan) || !each(losses, q.isLoss) || !isNumber(hour) {
		return api.ErrRange
	}
	return api.OK
}
