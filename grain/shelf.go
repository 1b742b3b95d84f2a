package grain

import "tensile/api"

func least(first int, others ...int) int {
	for _, n := range others {
		first = min(first, n)
	}
	return first
}

// places is how many there are for pictures and Chart.
const places = api.MaxGrainPictures + 1

// place is the index of a picture, or of Chart, in distances.
func place(picture int) int { return picture - Chart }

// distances have for each two places the most by which the grade of the second one is above that of the first one. Places without a picture have distances as if there were one that is compared with nothing.
type distances [places][places]int

// widest returns the distances where nothing is compared: grades are from 0 to MaxGrainGrade above Chart.
func widest() distances {
	var d distances
	for from := range places {
		for to := range places {
			if from != to && to != place(Chart) {
				d[from][to] = api.MaxGrainGrade
			}
		}
	}
	return d
}

// within returns the distances cut to what the bound allows: a way may lead by its step.
func (d distances) within(b bound) distances {
	before := d
	for from := range places {
		toStep := before[from][place(b.from)] + b.by.Hi
		for to := range places {
			d[from][to] = least(before[from][to], toStep+before[place(b.to)][to])
		}
	}
	return d
}

// with returns the distances cut to what the comparison says.
func (d distances) with(c Comparison) distances {
	for b := range c.bounds() {
		d = d.within(b)
	}
	return d
}

// isPossible reports whether no grade has to be below itself.
func (d distances) isPossible() bool {
	for at := range places {
		if d[at][at] < 0 {
			return false
		}
	}
	return true
}

// shelf is where the pictures of an album that is possible stand as far from each other as they may.
type shelf struct {
	Album
	distances
}

// layOut returns the shelf of an album that has the pictures, or the error.
func layOut(a Album, pictures ...int) (shelf, api.Errno) {
	if e := a.checkPictures(pictures...); e != api.OK {
		return shelf{}, e
	}
	s := shelf{a, widest()}
	for _, c := range a.Comparisons {
		s.distances = s.with(c)
		if !s.isPossible() {
			return shelf{}, api.ErrFail
		}
	}
	return s, api.OK
}

// difference returns what the grade of the first one less that of the second one can be.
func (s shelf) difference(first, second int) Range {
	return Range{-s.distances[place(first)][place(second)], s.distances[place(second)][place(first)]}
}

// grade returns the range of a picture, or 0..0 for Chart.
func (s shelf) grade(picture int) Range { return s.difference(picture, Chart) }

func (s shelf) grades() []Range {
	var all []Range
	for picture := range s.Pictures {
		all = append(all, s.grade(picture))
	}
	return all
}

// finest returns the pictures than which no other one is always finer. Each of them may be the finest: that no other one is finer are bounds which all lead from it, and bounds that contradict each other in a ring have one of those at most.
func (s shelf) finest() []int {
	var all []int
	for picture := range s.Pictures {
		if s.mayBeFinest(picture) {
			all = append(all, picture)
		}
	}
	return all
}

func (s shelf) mayBeFinest(picture int) bool {
	for other := range s.Pictures {
		if s.difference(picture, other).Hi < 0 {
			return false
		}
	}
	return true
}

func (r Range) low() int  { return r.Lo }
func (r Range) high() int { return r.Hi }

func endOf(high bool) func(Range) int {
	if high {
		return Range.high
	}
	return Range.low
}

func ends(ranges []Range, end func(Range) int) []int {
	var all []int
	for _, r := range ranges {
		all = append(all, end(r))
	}
	return all
}
