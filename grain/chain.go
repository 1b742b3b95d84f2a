package grain

import "slices"

// tight returns the steps by which the end of a range follows from that of the picture before it, each with a comparison that says so.
func (s shelf) tight(end func(Range) int) map[step]int {
	all := map[step]int{}
	for number, c := range s.Comparisons {
		for b := range c.bounds() {
			if end(s.grade(b.from).plus(b.by)) == end(s.grade(b.to)) {
				all[b.step] = number
			}
		}
	}
	return all
}

// trail leads by a chain from a picture, or from Chart, to another one.
type trail struct {
	from  int
	chain []int
}

// begins reports whether no comparison has to tell the end: of Chart, or of a picture that may have the least or the greatest grade there is.
func (s shelf) begins(picture int, end func(Range) int) bool {
	return picture == Chart || end(s.grade(picture)) == end(everyGrade())
}

// chain returns one of the fewest comparisons that tells the end of the picture's range. It is looked for backwards along tight steps; as no picture is left twice, there are no more comparisons than pictures.
func (s shelf) chain(picture int, end func(Range) int) []int {
	tight := s.tight(end)
	open := []trail{{from: picture}}
	var reached [places]bool
	var found []int
search:
	for len(open) > 0 {
		t := open[0]
		open = open[1:]
		switch {
		case s.begins(t.from, end):
			found = t.chain
			break search
		case reached[place(t.from)]:
			continue
		}
		reached[place(t.from)] = true
		for before := range places {
			from := before + Chart
			if number, is := tight[step{from, t.from}]; is {
				open = append(open, trail{from, slices.Concat([]int{number}, t.chain)})
			}
		}
	}
	return found
}
