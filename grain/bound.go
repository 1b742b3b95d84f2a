package grain

import "iter"

// step is one from a picture, or Chart, to the other one of a comparison.
type step struct{ from, to int }

// bound tells By how much the grade of the picture to which a step leads is greater than that of the one from which it comes.
type bound struct {
	step
	by Range
}

// ofLeft returns what the comparison tells of its Left.
func (c Comparison) ofLeft() bound { return bound{step{c.Right, c.Left}, Range{c.Least, c.Most}} }

// ofRight returns what the comparison tells of its Right.
func (c Comparison) ofRight() bound { return bound{step{c.Left, c.Right}, Range{-c.Most, -c.Least}} }

// side is one of the two from which a comparison is looked at.
type side struct{ bound func(Comparison) bound }

func sides() [2]side { return [2]side{{Comparison.ofLeft}, {Comparison.ofRight}} }

// bounds brings those that the comparison sets.
func (c Comparison) bounds() iter.Seq[bound] {
	return func(bring func(bound) bool) {
		for _, x := range sides() {
			if !bring(x.bound(c)) {
				return
			}
		}
	}
}

// leadingTo returns the bound of the comparison that leads to the picture, if it has one.
func (c Comparison) leadingTo(picture int) (bound, bool) {
	for b := range c.bounds() {
		if b.to == picture {
			return b, true
		}
	}
	return bound{}, false
}

// last returns the bound by which the last comparison of a chain leads to the picture, if there is one.
func (a Album) last(picture int, chain []int) (bound, bool) {
	number := chain[len(chain)-1]
	if number < 0 || number >= len(a.Comparisons) {
		return bound{}, false
	}
	return a.Comparisons[number].leadingTo(picture)
}

// tells returns what the chain tells of the picture, and whether it is a chain for it. Of Chart no comparisons tell 0, and no others are a chain.
func (a Album) tells(picture int, chain []int) (Range, bool) {
	switch {
	case picture == Chart:
		return Range{}, len(chain) == 0
	case len(chain) == 0:
		return everyGrade(), true
	}
	b, leads := a.last(picture, chain)
	if !leads {
		return Range{}, false
	}
	others, is := a.tells(b.from, chain[:len(chain)-1])
	return others.plus(b.by).cut(everyGrade()), is
}
