package curve

import "iter"

// place is where a search for a truth stands: a point, and the load that it has just been given.
type place struct{ at, load int }

// event is what a search looks for: loads for the point behind a place, such that some lead to what is least and to what is greatest; and whether it happens on the way there.
type event struct {
	choices func(r reading, from place) []int
	happens func(r reading, from, to place) bool
}

// yielding brings truths that have a yield point.
func (r reading) yielding() iter.Seq[loads] {
	return r.search(event{reading.dropChoices, reading.dropHappens})
}

// meeting brings truths that have a meeting point.
func (r reading) meeting() iter.Seq[loads] {
	return r.search(event{reading.meetChoices, reading.meetHappens})
}

// search goes from point to point, by each of the choices, until the event happens, and brings the truths in which it does.
func (r reading) search(e event) iter.Seq[loads] {
	return func(bring func(loads) bool) {
		open := []place{{at: nowhere}}
		came := map[place]place{}
	search:
		for len(open) > 0 {
			from := open[0]
			open = open[1:]
			if from.at == len(r.Points)-1 {
				break search // the other open places are at the last point, too
			}
			for _, load := range e.choices(r, from) {
				to := place{from.at + 1, load}
				_, known := came[to]
				switch {
				case !r.Points[to.at].Load.has(load):
				case e.happens(r, from, to):
					if !bring(r.trace(came, from, to)) {
						break search
					}
				case !known:
					came[to] = from
					open = append(open, to)
				}
			}
		}
	}
}

// trace returns the truth that leads to a place and on to the next one; behind it the loads are the least.
func (r reading) trace(came map[place]place, from, to place) loads {
	truth := r.lows()
	truth[to.at] = to.load
	for from.at != nowhere {
		truth[from.at] = from.load
		from = came[from]
	}
	return truth
}

// dropChoices are the ends of the range; the least load to which the point before does not drop, as a lesser one would end the search too early; and the least one that drops to the Lo of the next point.
func (r reading) dropChoices(from place) []int {
	at := from.at + 1
	own := r.Points[at].Load
	choices := []int{own.Lo, own.Hi}
	if from.at != nowhere {
		choices = append(choices, from.load-r.Drop+1)
	}
	if at+1 < len(r.Points) {
		choices = append(choices, r.Points[at+1].Load.Lo+r.Drop)
	}
	return choices
}

func (r reading) dropHappens(from, to place) bool {
	return from.at != nowhere && from.load-to.load >= r.Drop
}

// meetChoices are the ends of the range and the load at the line: the proof load rises with the load of the meeting point, and with that of the point before. The least load above the line is not needed: where it is not the Lo, a meeting at that point itself is by less.
func (r reading) meetChoices(from place) []int {
	at := from.at + 1
	own := r.Points[at].Load
	return []int{own.Lo, own.Hi, r.line(at)}
}

func (r reading) meetHappens(_, to place) bool { return to.load <= r.line(to.at) }
