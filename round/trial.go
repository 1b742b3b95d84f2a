package round

import (
	"iter"
	"slices"

	"tensile/api"
)

// offSet tells of each laboratory whether it is off.
type offSet [api.MaxRoundLabs]bool

func (s offSet) with(lab int) offSet {
	s[lab] = true
	return s
}

// list returns those who are off, rising.
func (s offSet) list() []int {
	var all []int
	for lab := range s {
		if s[lab] {
			all = append(all, lab)
		}
	}
	return all
}

// trial is a round that is judged by those alone who are not off.
type trial struct {
	Round
	off offSet
}

func (r Round) without(off ...int) trial {
	t := trial{Round: r}
	for _, lab := range off {
		t.off = t.off.with(lab)
	}
	return t
}

// readings brings, of each one who is not off and has read the sample, the values by which its reading is right.
func (t trial) readings(sample int) iter.Seq[Range] {
	return func(bring func(Range) bool) {
		for number, lab := range t.Labs {
			reading := lab.Readings[sample]
			if t.off[number] || reading == None {
				continue
			}
			if !bring(Range{reading, reading}.wider(lab.Tol)) {
				return
			}
		}
	}
}

// narrow returns what is left of the values of lots and samples, where each sample has been held against its readings and the lot alone, and each lot against its samples. It ends before a sample without a value.
func (t trial) narrow() (lots, samples []Range) {
	lots = slices.Clone(t.Lots)
narrowing:
	for sample, lot := range t.Samples {
		values := t.Lots[lot].wider(t.Spread)
		for r := range t.readings(sample) {
			values = common(values, r)
			if !values.hasSome() {
				break narrowing
			}
		}
		samples = append(samples, values)
		lots[lot] = common(lots[lot], values.wider(t.Spread))
	}
	return lots, samples
}

// spans returns those of all samples, and whether there is a truth in which all are right who are not off. What the other samples of its lot tell of a sample, they tell by what is left of the lot.
func (t trial) spans() ([]Range, bool) {
	lots, samples := t.narrow()
	if len(samples) < len(t.Samples) || !each(lots, Range.hasSome) {
		return nil, false
	}
	for sample, lot := range t.Samples {
		samples[sample] = common(samples[sample], lots[lot].wider(t.Spread))
	}
	return samples, true
}
