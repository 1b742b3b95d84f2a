package round_test

import (
	"cmp"
	"iter"
	"math/rand/v2"
	"slices"
	"testing"

	"tensile/api"
	"tensile/round"
)

// The functions of this file say word for word what the chapter's definitions do.

func has(r round.Range, n int) bool { return r.Lo <= n && n <= r.Hi }

func within(r, other round.Range) bool { return has(other, r.Lo) && has(other, r.Hi) }

func isNear(n, other, by int) bool { return other-by <= n && n <= other+by }

// isRight tells whether a laboratory is right if samples have the values, or would be if each of its readings were less by the shift.
func isRight(x round.Lab, values []int, shift int) bool {
	for sample, reading := range x.Readings {
		if reading != none && !isNear(reading-shift, values[sample], x.Tol) {
			return false
		}
	}
	return true
}

// offBy returns those who are off if samples have the values.
func offBy(r round.Round, values []int) []int {
	var off []int
	for number, x := range r.Labs {
		if !isRight(x, values, 0) {
			off = append(off, number)
		}
	}
	return off
}

// truths brings the values of samples in all truths of a round; those of a sample that has the same ones in several truths are brought again.
func truths(r round.Round) iter.Seq[[]int] {
	return func(bring func([]int) bool) {
		values := make([]int, len(r.Samples))
		lots := make([]int, len(r.Lots))
		var ofSample, ofLot func(int) bool
		ofSample = func(sample int) bool {
			if sample == len(r.Samples) {
				return bring(values)
			}
			lot := lots[r.Samples[sample]]
			for v := lot - r.Spread; v <= lot+r.Spread; v++ {
				values[sample] = v
				if !ofSample(sample + 1) {
					return false
				}
			}
			return true
		}
		ofLot = func(lot int) bool {
			if lot == len(r.Lots) {
				return ofSample(0)
			}
			for v := r.Lots[lot].Lo; v <= r.Lots[lot].Hi; v++ {
				lots[lot] = v
				if !ofLot(lot + 1) {
					return false
				}
			}
			return true
		}
		ofLot(0)
	}
}

// lists returns all rising lists of numbers below one, the shortest ones first, and the least ones of those.
func lists(below int) [][]int {
	all := [][]int{nil}
	for n := range below {
		for _, list := range all {
			all = append(all, append(slices.Clone(list), n))
		}
	}
	slices.SortFunc(all, func(a, b []int) int { return cmp.Or(cmp.Compare(len(a), len(b)), slices.Compare(a, b)) })
	return all
}

func isAmong(list, others []int) bool {
	return !slices.ContainsFunc(list, func(n int) bool { return !slices.Contains(others, n) })
}

// verdict is what is told of a round without the laboratories in a list.
type verdict struct {
	off   []int
	is    bool
	spans []round.Range
}

// add has the values of a truth in which all others are right.
func (v *verdict) add(values []int) {
	for sample, n := range values {
		if !v.is {
			v.spans = append(v.spans, to(n, n))
		}
		v.spans[sample] = to(min(v.spans[sample].Lo, n), max(v.spans[sample].Hi, n))
	}
	v.is = true
}

// allVerdicts returns one for each list of laboratories, the shortest ones first, from all truths.
func allVerdicts(r round.Round) []verdict {
	var all []verdict
	for _, off := range lists(len(r.Labs)) {
		all = append(all, verdict{off: off})
	}
	for values := range truths(r) {
		wrong := offBy(r, values)
		for i := range all {
			if isAmong(wrong, all[i].off) {
				all[i].add(values)
			}
		}
	}
	return all
}

// byLots returns what is told without some laboratories, from all values of each lot, and of each of its samples. Behind those who are off, the readings of one laboratory are less by a shift.
func byLots(r round.Round, off []int, lab, shift int) verdict {
	v := verdict{off: off, is: true, spans: make([]round.Range, len(r.Samples))}
	for lot, values := range r.Lots {
		found := false
		for n := values.Lo; n <= values.Hi; n++ {
			spans, is := atLot(r, off, lab, shift, lot, n)
			if !is {
				continue
			}
			for sample, span := range spans {
				if found {
					span = to(min(span.Lo, v.spans[sample].Lo), max(span.Hi, v.spans[sample].Hi))
				}
				v.spans[sample] = span
			}
			found = true
		}
		v.is = v.is && found
	}
	if !v.is {
		v.spans = nil
	}
	return v
}

// atLot returns which values the samples of a lot can have if the lot has a value, and whether each has some.
func atLot(r round.Round, off []int, lab, shift, lot, n int) (map[int]round.Range, bool) {
	all := map[int]round.Range{}
	for sample := range r.Samples {
		if r.Samples[sample] != lot {
			continue
		}
		for v := n - r.Spread; v <= n+r.Spread; v++ {
			if areRight(r, off, lab, shift, sample, v) {
				if _, is := all[sample]; !is {
					all[sample] = to(v, v)
				}
				all[sample] = to(all[sample].Lo, v)
			}
		}
		if _, is := all[sample]; !is {
			return nil, false
		}
	}
	return all, true
}

// areRight tells whether all who are not off are right with one sample, if it has a value.
func areRight(r round.Round, off []int, lab, shift, sample, v int) bool {
	for number, x := range r.Labs {
		reading, less := x.Readings[sample], 0
		if number == lab {
			less = shift
		}
		if !slices.Contains(off, number) && reading != none && !isNear(reading-less, v, x.Tol) {
			return false
		}
	}
	return true
}

// allByLots returns a verdict for each list of laboratories, the shortest ones first.
func allByLots(r round.Round) []verdict {
	var all []verdict
	for _, off := range lists(len(r.Labs)) {
		all = append(all, byLots(r, off, none, 0))
	}
	return all
}

// leastByHand returns the least list, and who is convicted.
func leastByHand(all []verdict) (least, convicted []int) {
	var fewest [][]int
	for _, v := range all {
		if v.is && (len(fewest) == 0 || len(v.off) == len(fewest[0])) {
			fewest = append(fewest, v.off)
		}
	}
	for _, lab := range fewest[0] {
		if !slices.ContainsFunc(fewest, func(l []int) bool { return !slices.Contains(l, lab) }) {
			convicted = append(convicted, lab)
		}
	}
	return fewest[0], convicted
}

func between(dice *rand.Rand, low, high int) int { return low + dice.IntN(high-low+1) }

// making tells of which size the numbers of rounds are that are made.
type making struct {
	lots, samples, labs int
	values              round.Range
	wide, spread, tol   int
	wrong               int
}

func small() making {
	return making{lots: 2, samples: 3, labs: 4, values: to(0, 12), wide: 3, spread: 2, tol: 2, wrong: 4}
}

func middling() making {
	return making{lots: 3, samples: 5, labs: 6, values: to(0, 40), wide: 15, spread: 4, tol: 6, wrong: 12}
}

func large() making {
	return making{lots: 4, samples: 8, labs: 6, values: to(0, 1000), wide: 300, spread: 100, tol: 100, wrong: 300}
}

type made struct {
	round.Round
	lots, values []int // a truth
	shifts       []int // by how much all readings of a laboratory are more than ones that are right
}

// mostly returns one of several sizes up to the greatest one.
func mostly(dice *rand.Rand, most int) int {
	return []int{0, dice.IntN(most + 1), between(dice, 0, min(most, 3)), most}[dice.IntN(4)]
}

func (m making) clip(n int) int { return min(max(n, m.values.Lo), m.values.Hi) }

// reading returns one of a sample, more than one that is right by the shift; or None, if there is none such.
func (m making) reading(dice *rand.Rand, value, tol, shift int) int {
	n := between(dice, value-tol, value+tol) + shift
	if dice.IntN(5) == 0 || !has(m.values, n) {
		return none
	}
	return n
}

// round returns one with a truth of it. Some of the laboratories are off by a shift.
func (m making) round(dice *rand.Rand) made {
	x := made{Round: round.Round{Spread: mostly(dice, m.spread)}}
	for range between(dice, 1, m.lots) {
		n := between(dice, m.values.Lo, m.values.Hi)
		wide := mostly(dice, m.wide)
		x.lots = append(x.lots, n)
		x.Lots = append(x.Lots, to(m.clip(n-dice.IntN(wide+1)), m.clip(n+dice.IntN(wide+1))))
	}
	for range dice.IntN(m.samples + 1) {
		lot := dice.IntN(len(x.Lots))
		x.Samples = append(x.Samples, lot)
		x.values = append(x.values, between(dice, x.lots[lot]-x.Spread, x.lots[lot]+x.Spread))
	}
	rarity := between(dice, 1, 5)
	for range dice.IntN(m.labs + 1) {
		shift := 0
		if dice.IntN(rarity) == 0 {
			shift = between(dice, -m.wrong, m.wrong)
		}
		l := lab(mostly(dice, m.tol))
		for _, value := range x.values {
			l.Readings = append(l.Readings, m.reading(dice, value, l.Tol, shift))
		}
		x.Labs = append(x.Labs, l)
		x.shifts = append(x.shifts, shift)
	}
	return x
}

// rounds brings so many, the same ones each time.
func (m making) rounds(number int) iter.Seq2[*rand.Rand, made] {
	return func(bring func(*rand.Rand, made) bool) {
		dice := rand.New(rand.NewPCG(8, uint64(m.labs)))
		for range number {
			if !bring(dice, m.round(dice)) {
				return
			}
		}
	}
}

// copied returns a round that shares no memory with the one it is made of.
func copied(r round.Round) round.Round {
	r.Lots, r.Samples, r.Labs = slices.Clone(r.Lots), slices.Clone(r.Samples), slices.Clone(r.Labs)
	for i := range r.Labs {
		r.Labs[i].Readings = slices.Clone(r.Labs[i].Readings)
	}
	return r
}

// changed returns the round with some readings that are wrong by themselves.
func (m making) changed(dice *rand.Rand, r round.Round) round.Round {
	r = copied(r)
	rarity := between(dice, 2, 12)
	for _, x := range r.Labs {
		for i, reading := range x.Readings {
			if reading != none && dice.IntN(rarity) == 0 {
				x.Readings[i] = m.clip(reading + between(dice, -m.wrong, m.wrong))
			}
		}
	}
	return r
}

// counts of what was met with.
type counts map[string]int

func (k counts) areLess(t *testing.T, than int, each ...string) {
	t.Helper()
	for _, x := range each {
		if k[x] < than {
			t.Errorf("%v", k)
		}
	}
}

// isByHand holds all that is told, but the shifts, against the verdicts for each list of laboratories.
func isByHand(t *testing.T, r round.Round, all []verdict, k counts) {
	t.Helper()
	for _, v := range all {
		if is, e := round.Explains(r, v.off); is != v.is || e != api.OK {
			t.Fatalf("Explains of %v, %v: %v, %v", r, v.off, is, e)
		}
		want := api.OK
		if !v.is {
			want = api.ErrFail
			k["no spans"]++
		}
		if l, e := round.Spans(r, v.off); !slices.Equal(l, v.spans) || e != want {
			t.Fatalf("Spans of %v without %v: %v, %v, not %v", r, v.off, l, e, v.spans)
		}
	}
	least, convicted := leastByHand(all)
	if l, e := round.Least(r); !slices.Equal(l, least) || e != api.OK {
		t.Fatalf("Least of %v: %v, %v, not %v", r, l, e, least)
	}
	want := api.OK
	if len(convicted) == 0 {
		want = api.ErrNone
	}
	if l, e := round.Convicted(r); !slices.Equal(l, convicted) || e != want {
		t.Fatalf("Convicted of %v: %v, %v, not %v", r, l, e, convicted)
	}
	switch {
	case len(least) == 0:
		k["nobody"]++
	case len(convicted) == 0:
		k["nobody surely"]++
	case len(convicted) < len(least):
		k["some surely"]++
	default:
		k["all surely"]++
	}
	if len(least) > 1 {
		k["more than one"]++
	}
}

// P8.1, P8.2, P8.3, P8.4, P2, P4, P5: by all truths.
func TestByAllTruths(t *testing.T) {
	k := counts{}
	for dice, x := range small().rounds(8000) {
		r := x.Round
		if dice.IntN(2) == 0 {
			r = small().changed(dice, r)
		}
		isByHand(t, r, allVerdicts(r), k)
	}
	k.areLess(t, 20, "some surely")
	k.areLess(t, 100, "nobody", "nobody surely", "all surely", "more than one", "no spans")
}

// P8.1, P8.2, P8.3, P8.4
func TestByLots(t *testing.T) {
	k := counts{}
	for dice, x := range middling().rounds(4000) {
		r := x.Round
		if dice.IntN(2) == 0 {
			r = middling().changed(dice, r)
		}
		isByHand(t, r, allByLots(r), k)
	}
	k.areLess(t, 20, "some surely")
	k.areLess(t, 100, "nobody", "nobody surely", "all surely", "more than one", "no spans")
}

// P8.1, P8.2: numbers of all sizes.
func TestLargeByLots(t *testing.T) {
	k := counts{}
	for dice, x := range large().rounds(200) {
		r := x.Round
		if dice.IntN(2) == 0 {
			r = large().changed(dice, r)
		}
		for range 3 {
			all := lists(len(r.Labs))
			off := all[dice.IntN(len(all))]
			want := byLots(r, off, none, 0)
			is, e := round.Explains(r, off)
			l, f := round.Spans(r, off)
			if is != want.is || e != api.OK || !slices.Equal(l, want.spans) || (f == api.OK) != want.is {
				t.Fatalf("%v without %v: %v, %v; %v, %v, not %v", r, off, is, e, l, f, want)
			}
			if is {
				k["spans"]++
			} else {
				k["none"]++
			}
		}
	}
	k.areLess(t, 40, "spans", "none")
}

// shiftsByHand returns the least and the greatest shift by which a laboratory errs, and whether there is one. As no number of the round is above 100, it errs by a shift above 300 only if it errs by any.
func shiftsByHand(t *testing.T, r round.Round, lab int) (round.Range, bool) {
	t.Helper()
	var found []int
	for shift := -300; shift <= 300; shift++ {
		if byLots(r, nil, lab, shift).is {
			found = append(found, shift)
		}
	}
	if len(found) == 0 {
		return to(0, 0), false
	}
	if len(found) != found[len(found)-1]-found[0]+1 {
		t.Fatalf("%v: %d errs by %v", r, lab, found)
	}
	low, high := byLots(r, nil, lab, -2000).is, byLots(r, nil, lab, 2000).is
	if low != high || low != (len(found) == 601) {
		t.Fatalf("%v: %d errs by %v, and by 2000: %v, %v", r, lab, found, low, high)
	}
	if low {
		return to(-2000, 2000), true
	}
	return to(found[0], found[len(found)-1]), true
}

// P8.5, P2
func TestShiftsByHand(t *testing.T) {
	k := counts{}
	for dice, x := range middling().rounds(2500) {
		r := x.Round
		if dice.IntN(3) == 0 {
			r = middling().changed(dice, r)
		}
		for lab := range r.Labs {
			if !byLots(r, []int{lab}, none, 0).is {
				shiftsError(t, "by hand", r, lab, api.ErrFail)
				k["does not explain"]++
				continue
			}
			want, is := shiftsByHand(t, r, lab)
			if !is {
				shiftsError(t, "by hand", r, lab, api.ErrNone)
				k["by none"]++
				continue
			}
			if s, e := round.Shifts(r, lab); s != want || e != api.OK {
				t.Fatalf("Shifts of %d, %v: %v, %v, not %v", lab, r, s, e, want)
			}
			switch {
			case want == to(-2000, 2000):
				k["by any"]++
			case !has(want, 0):
				k["not by 0"]++
			default:
				k["by 0"]++
			}
		}
	}
	k.areLess(t, 60, "does not explain", "by none", "by any", "not by 0", "by 0")
}

// P8.5: a laboratory errs by a shift if there is a truth; its samples' values are looked through.
func TestShiftsByAllTruths(t *testing.T) {
	k := counts{}
	for dice, x := range small().rounds(4000) {
		r := x.Round
		if dice.IntN(3) == 0 {
			r = small().changed(dice, r)
		}
		for lab := range r.Labs {
			explains := false
			var found []int
			for values := range truths(r) {
				if !isAmong(offBy(r, values), []int{lab}) {
					continue
				}
				explains = true
				for shift := -40; shift <= 40; shift++ {
					if isRight(r.Labs[lab], values, shift) {
						found = append(found, shift)
					}
				}
			}
			s, e := round.Shifts(r, lab)
			switch {
			case !explains:
				shiftsError(t, "by all truths", r, lab, api.ErrFail)
			case len(found) == 0:
				shiftsError(t, "by all truths", r, lab, api.ErrNone)
				k["by none"]++
			case e != api.OK || slices.Min(found) != max(s.Lo, -40) || slices.Max(found) != min(s.Hi, 40):
				t.Fatalf("Shifts of %d, %v: %v, %v", lab, r, s, e)
			default:
				k["by some"]++
			}
		}
	}
	k.areLess(t, 15, "by none", "by some")
}
