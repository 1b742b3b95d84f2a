package queue

import (
	"iter"
	"slices"

	"tensile/api"
)

// atWork is a queue whose runs are laid on machines, for the hours from 0 on that have crews.
type atWork struct {
	Queue
	crews []crew
	left  []int // how many hours each run needs more
}

func (q Queue) start() *atWork {
	w := &atWork{Queue: q}
	for _, r := range q.Runs {
		w.left = append(w.left, r.Hours)
	}
	return w
}

// none stands for what a step does not have.
const none = -1

// step is one on the way by which a run finds an hour: a run without an hour looks for one, a run with an hour looks for a machine, and a machine with an hour is taken by the run that looked for it.
type step struct{ run, hour, machine int }

func seeker(run int) step { return step{run, none, none} }

// lead is what a step leads to.
type lead struct {
	to func(*atWork, step) iter.Seq[step]
}

func (s step) lead() lead {
	switch {
	case s.hour == none:
		return lead{(*atWork).hoursOf}
	case s.machine == none:
		return lead{(*atWork).machinesOf}
	}
	return lead{(*atWork).waysOut}
}

// hoursOf brings the hours at which the run is not on a machine.
func (w *atWork) hoursOf(s step) iter.Seq[step] {
	return func(bring func(step) bool) {
		for hour, c := range w.crews {
			if !slices.Contains(c[:], s.run) && !bring(step{s.run, hour, none}) {
				return
			}
		}
	}
}

// machinesOf brings the machines on which the run may be at the hour.
func (w *atWork) machinesOf(s step) iter.Seq[step] {
	return func(bring func(step) bool) {
		for machine := range w.machinesFor(s.run, s.hour) {
			if !bring(step{none, s.hour, machine}) {
				return
			}
		}
	}
}

// waysOut brings where the run can go whose machine is taken: to another one at the same hour, or to another hour.
func (w *atWork) waysOut(s step) iter.Seq[step] {
	return func(bring func(step) bool) {
		run := w.crews[s.hour][s.machine]
		if bring(step{run, s.hour, none}) {
			bring(seeker(run))
		}
	}
}

func (w *atWork) isIdle(s step) bool {
	return s.machine != none && w.crews[s.hour][s.machine] == Idle
}

// findHour lays one more hour of the run, and reports whether it could. A way never comes to the same step twice; so all of its steps can be taken at once.
func (w *atWork) findHour(run int) bool {
	first := seeker(run)
	last := first
	before := map[step]step{first: first}
	open := []step{first}
search:
	for len(open) > 0 {
		at := open[0]
		open = open[1:]
		for next := range at.lead().to(w, at) {
			if _, isKnown := before[next]; isKnown {
				continue
			}
			before[next] = at
			if w.isIdle(next) {
				last = next
				break search
			}
			open = append(open, next)
		}
	}
	for at := last; at != first; at = before[at] {
		if at.machine != none {
			w.crews[at.hour][at.machine] = before[at].run
		}
	}
	return last != first
}

// lay lays as many hours of the runs as it can, and reports whether these are all. A run that finds no hour would not find one behind the others, either.
func (w *atWork) lay() bool {
	for run := range w.Runs {
		for w.left[run] > 0 && w.findHour(run) {
			w.left[run]--
		}
	}
	return each(w.left, func(hours int) bool { return hours == 0 })
}

// layAll lays the runs on as few hours as can be, and reports whether there are enough. What was laid on fewer hours stays a beginning.
func (w *atWork) layAll() bool {
	for !w.lay() {
		if len(w.crews) == api.MaxQueueHours {
			return false
		}
		w.crews = append(w.crews, nobody())
	}
	return true
}

// plan returns who is on the machines that there are.
func (w *atWork) plan() [][]int {
	var all [][]int
	for _, c := range w.crews {
		all = append(all, slices.Clone(c[:len(w.Machines)]))
	}
	return all
}
