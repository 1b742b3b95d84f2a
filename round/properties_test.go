package round_test

import (
	"math"
	"math/rand/v2"
	"reflect"
	"slices"
	"testing"

	"tensile/api"
	"tensile/round"
)

// told is all that is told of a round.
type told struct {
	verdicts         []verdict // of each list of laboratories, the shortest ones first
	least, convicted []int
	shifts           []round.Range
	errs             []api.Errno // of Shifts
}

func tell(t *testing.T, r round.Round) told {
	t.Helper()
	var x told
	for _, off := range lists(len(r.Labs)) {
		is, e := round.Explains(r, off)
		l, f := round.Spans(r, off)
		if e != api.OK || is != (f == api.OK) {
			t.Fatalf("%v without %v: %v, %v, %v, %v", r, off, is, e, l, f)
		}
		x.verdicts = append(x.verdicts, verdict{off, is, l})
	}
	for lab := range r.Labs {
		s, e := round.Shifts(r, lab)
		x.shifts, x.errs = append(x.shifts, s), append(x.errs, e)
	}
	least, e := round.Least(r)
	convicted, f := round.Convicted(r)
	if e != api.OK || (f == api.OK) != (len(convicted) > 0) {
		t.Fatalf("%v: %v, %v, %v, %v", r, least, e, convicted, f)
	}
	x.least, x.convicted = least, convicted
	return x
}

// of returns the verdict for a list.
func (x told) of(off []int) verdict {
	return x.verdicts[slices.IndexFunc(x.verdicts, func(v verdict) bool { return slices.Equal(v.off, off) })]
}

// some returns rounds of all sizes with the truths they were made of; readings of half of them are changed.
func some(number int) func(func(*rand.Rand, made) bool) {
	return func(bring func(*rand.Rand, made) bool) {
		for _, m := range []making{small(), middling(), large()} {
			for dice, x := range m.rounds(number) {
				if dice.IntN(2) == 0 {
					x.Round = m.changed(dice, x.Round)
				}
				if !bring(dice, x) {
					return
				}
			}
		}
	}
}

// P8.6: in a truth, whichever it is.
func isAsInTruth(t *testing.T, r round.Round, x told, values []int, k counts) {
	t.Helper()
	off := offBy(r, values)
	v := x.of(off)
	if !v.is || len(off) < len(x.least) {
		t.Fatalf("%v: %v are off, with %v: %v; the least list is %v", r, off, values, v, x.least)
	}
	for sample, n := range values {
		if !has(v.spans[sample], n) {
			t.Fatalf("%v: %v are off, with %v, not in %v", r, off, values, v.spans)
		}
	}
	if len(off) > len(x.least) {
		k["more"]++
		return
	}
	if !isAmong(x.convicted, off) {
		t.Fatalf("%v: %v are off, with %v, but %v convicted", r, off, values, x.convicted)
	}
	if len(off) > 0 {
		k["the fewest"]++
	}
}

// P8.6, P2
func TestWhoeverIsOff(t *testing.T) {
	k := counts{}
	for _, x := range some(1500) {
		isAsInTruth(t, x.Round, tell(t, x.Round), x.values, k)
	}
	for dice, x := range small().rounds(300) {
		r := small().changed(dice, x.Round)
		y := tell(t, r)
		for values := range truths(r) {
			isAsInTruth(t, r, y, values, k)
		}
	}
	k.areLess(t, 500, "more", "the fewest")
}

// P8.6: who is convicted can be spared only if more are off; who is not, need not.
func TestSpared(t *testing.T) {
	k := counts{}
	for _, x := range some(2000) {
		y := tell(t, x.Round)
		for lab := range x.Labs {
			spared := slices.ContainsFunc(y.verdicts, func(v verdict) bool {
				return v.is && len(v.off) == len(y.least) && !slices.Contains(v.off, lab)
			})
			if spared == slices.Contains(y.convicted, lab) {
				t.Fatalf("%v: %d is spared: %v, but %v convicted", x.Round, lab, spared, y.convicted)
			}
			if !spared {
				k["convicted"]++
			} else if slices.Contains(y.least, lab) {
				k["in the least list alone"]++
			}
		}
	}
	k.areLess(t, 300, "convicted", "in the least list alone")
}

// P8.7
func TestMoreAreOff(t *testing.T) {
	k := counts{}
	for _, x := range some(600) {
		y := tell(t, x.Round)
		for _, v := range y.verdicts {
			if !v.is {
				continue
			}
			for _, more := range y.verdicts {
				if !isAmong(v.off, more.off) {
					continue
				}
				if !more.is {
					t.Fatalf("%v: %v explain it, but not %v", x.Round, v.off, more.off)
				}
				for sample, span := range v.spans {
					if !within(span, more.spans[sample]) {
						t.Fatalf("%v: %v without %v, %v without %v", x.Round, v.spans, v.off, more.spans, more.off)
					}
					if span != more.spans[sample] {
						k["wider"]++
					}
				}
			}
		}
	}
	k.areLess(t, 2000, "wider")
}

// and returns the round with a laboratory that has read one sample exactly, if it can.
func and(r round.Round, sample, reading int) (round.Round, bool) {
	if len(r.Labs) == api.MaxRoundLabs || !has(to(0, 1000), reading) {
		return r, false
	}
	readings := slices.Repeat([]int{none}, len(r.Samples))
	readings[sample] = reading
	r.Labs = append(slices.Clone(r.Labs), lab(0, readings...))
	return r, true
}

// P8.8, P2
func TestEnds(t *testing.T) {
	k := counts{}
	for dice, x := range some(1000) {
		for _, v := range tell(t, x.Round).verdicts {
			if !v.is || len(x.Samples) == 0 {
				continue
			}
			sample := dice.IntN(len(x.Samples))
			span := v.spans[sample]
			for _, n := range []int{span.Lo, span.Hi, between(dice, span.Lo, span.Hi), span.Lo - 1, span.Hi + 1, span.Lo - between(dice, 1, 30), span.Hi + between(dice, 1, 30)} {
				r, is := and(x.Round, sample, n)
				if !is {
					continue
				}
				explain, e := round.Explains(r, v.off)
				l, _ := round.Spans(r, v.off)
				if explain != has(span, n) || e != api.OK || explain && l[sample] != to(n, n) {
					t.Fatalf("%v without %v: the sample %d is in %v, but read as %d: %v, %v", x.Round, v.off, sample, span, n, explain, l)
				}
				if explain {
					k["in it"]++
				} else {
					k["beside it"]++
				}
			}
		}
	}
	k.areLess(t, 5000, "in it", "beside it")
}

// kinder returns the round with something that makes it easier to be right, or nothing else.
func kinder(dice *rand.Rand, r round.Round) (round.Round, string) {
	r = copied(r)
	switch dice.IntN(4) {
	case 0:
		r.Spread = min(r.Spread+between(dice, 1, 5), api.MaxRoundTol)
		return r, "Spread"
	case 1:
		lot := &r.Lots[dice.IntN(len(r.Lots))]
		*lot = to(max(lot.Lo-between(dice, 0, 9), 0), min(lot.Hi+between(dice, 0, 9), api.MaxRoundValue))
		return r, "lot"
	}
	if len(r.Labs) == 0 {
		return r, "nobody"
	}
	x := &r.Labs[dice.IntN(len(r.Labs))]
	if dice.IntN(2) == 0 || len(r.Samples) == 0 {
		x.Tol = min(x.Tol+between(dice, 1, 5), api.MaxRoundTol)
		return r, "Tol"
	}
	x.Readings[dice.IntN(len(r.Samples))] = none
	return r, "reading"
}

// P8.9
func TestKinder(t *testing.T) {
	k := counts{}
	for dice, x := range some(2000) {
		r, what := kinder(dice, x.Round)
		before, behind := tell(t, x.Round), tell(t, r)
		for i, v := range before.verdicts {
			if v.is && !behind.verdicts[i].is {
				t.Fatalf("%v explain %v, but not %v", v.off, x.Round, r)
			}
			if !v.is && behind.verdicts[i].is {
				k[what]++
			}
		}
		if len(behind.least) > len(before.least) {
			t.Fatalf("%v: %v; %v: %v", x.Round, before.least, r, behind.least)
		}
	}
	k.areLess(t, 50, "Spread", "lot", "Tol", "reading")
}

// ofLot returns the round with the readings of one lot's samples alone.
func ofLot(r round.Round, lot int) round.Round {
	r = copied(r)
	for _, x := range r.Labs {
		for sample := range x.Readings {
			if r.Samples[sample] != lot {
				x.Readings[sample] = none
			}
		}
	}
	return r
}

// P8.10
func TestLotsApart(t *testing.T) {
	k := counts{}
	for _, x := range some(1000) {
		y := tell(t, x.Round)
		var parts []told
		for lot := range x.Lots {
			parts = append(parts, tell(t, ofLot(x.Round, lot)))
		}
		for i, v := range y.verdicts {
			explained := 0
			for _, part := range parts {
				if part.verdicts[i].is {
					explained++
				}
			}
			if v.is != (explained == len(x.Lots)) {
				t.Fatalf("%v without %v: %v, but %d lots", x.Round, v.off, v.is, explained)
			}
			if v.is {
				k["all"]++
			} else if explained > 0 {
				k["some"]++
			}
			for sample, span := range v.spans {
				if part := parts[x.Samples[sample]].verdicts[i].spans[sample]; part != span {
					t.Fatalf("%v without %v: %v, but %v alone", x.Round, v.off, span, part)
				}
			}
		}
	}
	k.areLess(t, 2000, "all", "some")
}

// P8.11
func TestAlwaysAlike(t *testing.T) {
	k := counts{}
	for _, m := range []making{small(), middling(), large()} {
		for dice, x := range m.rounds(4000) {
			if len(x.Labs) == 0 {
				continue
			}
			one := dice.IntN(len(x.Labs))
			r := x.Round
			r.Labs = []round.Lab{x.Labs[one]}
			for other, l := range x.Labs {
				if other != one && isRight(l, x.values, 0) {
					r.Labs = append(r.Labs, l)
				}
			}
			s, e := round.Shifts(r, 0)
			if e != api.OK || !has(s, x.shifts[one]) {
				t.Fatalf("%v: 0 errs by %d, not by %v, %v", r, x.shifts[one], s, e)
			}
			if has(s, 0) {
				k["by 0"]++
			} else {
				k["not by 0"]++
			}
		}
	}
	k.areLess(t, 1000, "not by 0", "by 0")
}

// P8.11
func TestByNothing(t *testing.T) {
	k := counts{}
	for _, x := range some(1500) {
		y := tell(t, x.Round)
		for lab, s := range y.shifts {
			if e := y.errs[lab]; e == api.ErrFail {
				if y.of([]int{lab}).is {
					t.Fatalf("%v: %d explains it: %v", x.Round, lab, e)
				}
				continue
			}
			byNothing := y.errs[lab] == api.OK && has(s, 0)
			if byNothing != (len(y.least) == 0) || !y.of([]int{lab}).is {
				t.Fatalf("%v: %d errs by %v, %v, but the least list is %v", x.Round, lab, s, y.errs[lab], y.least)
			}
			if byNothing {
				k["by 0"]++
			} else {
				k["not by 0"]++
			}
		}
	}
	k.areLess(t, 500, "by 0", "not by 0")
}

// moved returns the round with all readings and ends of lots greater by a number, if it is valid.
func moved(r round.Round, by int) (round.Round, bool) {
	r = copied(r)
	for i, x := range r.Lots {
		r.Lots[i] = to(x.Lo+by, x.Hi+by)
	}
	for _, x := range r.Labs {
		for i, reading := range x.Readings {
			if reading == none {
				continue
			}
			if reading+by < 0 {
				return r, false // It might become None.
			}
			x.Readings[i] = reading + by
		}
	}
	return r, round.CheckRound(r) == api.OK
}

// P8.12
func TestMoved(t *testing.T) {
	count := 0
	for dice, x := range some(1500) {
		by := []int{1, -1, between(dice, -12, 12), between(dice, 0, 960)}[dice.IntN(4)]
		r, is := moved(x.Round, by)
		if !is {
			continue
		}
		before, behind := tell(t, x.Round), tell(t, r)
		for _, v := range before.verdicts {
			for i := range v.spans {
				v.spans[i] = to(v.spans[i].Lo+by, v.spans[i].Hi+by)
			}
		}
		if !reflect.DeepEqual(before, behind) {
			t.Fatalf("%v by %d: %v, not %v", x.Round, by, behind, before)
		}
		count++
	}
	if count < 1500 {
		t.Errorf("%d rounds", count)
	}
}

// renumbered returns the laboratories of a list as they are numbered in another order, rising.
func renumbered(list, order []int) []int {
	var all []int
	for _, lab := range list {
		all = append(all, slices.Index(order, lab))
	}
	slices.Sort(all)
	return all
}

// P8.13, P6
func TestOrder(t *testing.T) {
	k := counts{}
	for dice, x := range some(1000) {
		r, order := x.Round, dice.Perm(len(x.Labs))
		r.Labs = nil
		for _, lab := range order {
			r.Labs = append(r.Labs, x.Labs[lab])
		}
		before, behind := tell(t, x.Round), tell(t, r)
		for _, v := range before.verdicts {
			if w := behind.of(renumbered(v.off, order)); v.is != w.is || !slices.Equal(v.spans, w.spans) {
				t.Fatalf("%v without %v: %v; in the order %v: %v", x.Round, v.off, v, order, w)
			}
		}
		if !slices.Equal(renumbered(before.convicted, order), behind.convicted) || len(before.least) != len(behind.least) {
			t.Fatalf("%v: %v of %v; in the order %v: %v of %v", x.Round, before.convicted, before.least, order, behind.convicted, behind.least)
		}
		for i, lab := range order {
			if before.shifts[lab] != behind.shifts[i] || before.errs[lab] != behind.errs[i] {
				t.Fatalf("%v: %d errs by %v, in the order %v by %v", x.Round, lab, before.shifts[lab], order, behind.shifts[i])
			}
		}
		if len(before.convicted) > 0 {
			k["convicted"]++
		}
		if !slices.Equal(renumbered(before.least, order), behind.least) {
			k["another least list"]++
		}
	}
	k.areLess(t, 100, "convicted", "another least list")
}

// P6: samples and lots in another order tell the same, as well.
func TestOrderOfSamples(t *testing.T) {
	for dice, x := range some(700) {
		r, samples, lots := copied(x.Round), dice.Perm(len(x.Samples)), dice.Perm(len(x.Lots))
		for i, lot := range lots {
			r.Lots[i] = x.Lots[lot]
		}
		for i, sample := range samples {
			r.Samples[i] = slices.Index(lots, x.Samples[sample])
			for number := range r.Labs {
				r.Labs[number].Readings[i] = x.Labs[number].Readings[sample]
			}
		}
		before, behind := tell(t, x.Round), tell(t, r)
		for number, v := range behind.verdicts {
			for i, sample := range samples {
				if v.is && v.spans[i] != before.verdicts[number].spans[sample] {
					t.Fatalf("%v: %v; %v: %v", x.Round, before, r, behind)
				}
			}
			behind.verdicts[number].spans = before.verdicts[number].spans
		}
		if !reflect.DeepEqual(before, behind) {
			t.Fatalf("%v: %v; %v: %v", x.Round, before, r, behind)
		}
	}
}

// P1
func TestAnyArguments(t *testing.T) {
	dice := rand.New(rand.NewPCG(1, 8))
	wild := func() int {
		return []int{math.MinInt, math.MaxInt, -2000, -2, -1, 0, 1, 2, 3, 4, 5, 6, 7, 8, 9, 100, 101, 1000, 1001, 2000}[dice.IntN(20)]
	}
	rarely := func(n int) int {
		if dice.IntN(80) == 0 {
			return wild()
		}
		return n
	}
	count := map[api.Errno]int{}
	for range 20000 {
		r := large().changed(dice, large().round(dice).Round)
		for i, x := range r.Lots {
			r.Lots[i] = to(rarely(x.Lo), rarely(x.Hi))
		}
		for i, lot := range r.Samples {
			r.Samples[i] = rarely(lot)
		}
		r.Spread = rarely(r.Spread)
		for i, x := range r.Labs {
			x.Readings = x.Readings[:min(uint(len(x.Readings)), uint(rarely(8)))]
			for j, reading := range x.Readings {
				x.Readings[j] = rarely(reading)
			}
			r.Labs[i] = round.Lab{Tol: rarely(x.Tol), Readings: x.Readings}
		}
		if dice.IntN(20) == 0 {
			r.Labs = append(r.Labs, r.Labs...)
		}
		off := []int{rarely(0), rarely(1), rarely(2)}[:dice.IntN(4)]
		count[round.CheckRound(r)]++
		round.Explains(r, off)
		round.Spans(r, off)
		round.Least(r)
		round.Convicted(r)
		round.Shifts(r, rarely(0))
	}
	if count[api.OK] < 5000 || count[api.ErrArg] < 2000 || count[api.ErrLimit] < 100 {
		t.Errorf("%v", count)
	}
}

// R3
func TestNothing(t *testing.T) {
	with := round.Round{Lots: []round.Range{to(1, 2)}, Samples: []int{}, Labs: []round.Lab{lab(1, []int{}...)}}
	without := round.Round{Lots: []round.Range{to(1, 2)}, Labs: []round.Lab{{Tol: 1}}}
	if one, two := tell(t, with), tell(t, without); !reflect.DeepEqual(one, two) || !one.verdicts[0].is || one.shifts[0] != to(-2000, 2000) {
		t.Errorf("%v, %v", one, two)
	}
	with, without = trial([]round.Lab{}...), trial()
	if one, two := tell(t, with), tell(t, without); !reflect.DeepEqual(one, two) || len(one.verdicts) != 1 || len(one.verdicts[0].spans) != 3 {
		t.Errorf("%v, %v", one, two)
	}
	for _, off := range [][]int{nil, {}} {
		if is, e := round.Explains(example(), off); is || e != api.OK {
			t.Errorf("Explains of nobody: %v, %v", is, e)
		}
		if l, e := round.Spans(trial(), off); len(l) != 3 || e != api.OK {
			t.Errorf("Spans without nobody: %v, %v", l, e)
		}
	}
}
