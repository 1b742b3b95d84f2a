package creep

import (
	"iter"

	"tensile/api"
)

// rateList has the rate of each band, and 0 where the material has no band.
type rateList [api.MaxCreepBands]int

// listed returns rates of a material as an array.
func listed(rates []int) rateList {
	var r rateList
	copy(r[:], rates)
	return r
}

// all brings the rates of the material, the least ones first.
func (m Material) all() iter.Seq[rateList] {
	return func(bring func(rateList) bool) {
		var r rateList
		var goOn func(band, least int) bool
		goOn = func(band, least int) bool {
			if band == len(m.Rates) {
				return bring(r)
			}
			for rate := max(least, m.Rates[band].Lo); rate <= m.Rates[band].Hi; rate++ {
				r[band] = rate
				if !goOn(band+1, rate) {
					return false
				}
			}
			return true
		}
		goOn(0, 0)
	}
}

func sum(ranges ...Range) Range {
	var all Range
	for _, r := range ranges {
		all = Range{all.Lo + r.Lo, all.Hi + r.Hi}
	}
	return all
}

// stretch returns that of some segments, for the rates.
func (r rateList) stretch(segments []Segment) Range {
	var parts []Range
	for _, s := range segments {
		parts = append(parts, Range{r[s.Band] * s.Hours.Lo, r[s.Band] * s.Hours.Hi})
	}
	return sum(parts...)
}

// fits reports whether the run allows the rates.
func (r rateList) fits(x Run) bool { return r.stretch(x.Segments).meets(x.Seen) }

type runList []Run

// room keeps specimens of a material, whose runs narrow what its rates can be.
type room struct {
	Material
	runList
}

// allowed brings the rates that all runs allow, the least ones first.
func (o room) allowed() iter.Seq[rateList] {
	return func(bring func(rateList) bool) {
	search:
		for r := range o.all() {
			fits := r.fits
			for _, x := range o.runList {
				if !fits(x) {
					continue search
				}
			}
			if !bring(r) {
				return
			}
		}
	}
}

// ranges returns for each band that of the allowed rates, and how many lists of rates are allowed.
func (o room) ranges() (all []Range, many int) {
	for r := range o.allowed() {
		for band := range len(o.Rates) {
			if many == 0 {
				all = append(all, Range{r[band], r[band]})
			}
			all[band] = Range{min(all[band].Lo, r[band]), max(all[band].Hi, r[band])}
		}
		many++
	}
	return all, many
}
