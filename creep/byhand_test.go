package creep_test

import (
	"cmp"
	"iter"
	"math/rand/v2"
	"slices"
	"testing"

	"tensile/api"
	"tensile/creep"
)

// The functions of this file say word for word what the chapter's definitions do.

func has(r creep.Range, n int) bool { return r.Lo <= n && n <= r.Hi }

func within(r, other creep.Range) bool { return has(other, r.Lo) && has(other, r.Hi) }

// ratesOf returns all lists of a number of each range, none less than that before it.
func ratesOf(m creep.Material) [][]int {
	all := [][]int{nil}
	for _, r := range m.Rates {
		var longer [][]int
		for _, list := range all {
			for n := r.Lo; n <= r.Hi; n++ {
				if len(list) == 0 || list[len(list)-1] <= n {
					longer = append(longer, append(slices.Clone(list), n))
				}
			}
		}
		all = longer
	}
	return all
}

func stretchFor(rates []int, segments []creep.Segment) creep.Range {
	var all creep.Range
	for _, s := range segments {
		all.Lo += rates[s.Band] * s.Hours.Lo
		all.Hi += rates[s.Band] * s.Hours.Hi
	}
	return all
}

func isAllowed(rates []int, l []creep.Run) bool {
	for _, x := range l {
		if s := stretchFor(rates, x.Segments); s.Lo > x.Seen.Hi || s.Hi < x.Seen.Lo {
			return false
		}
	}
	return true
}

func allowedBy(m creep.Material, l []creep.Run) [][]int {
	return slices.DeleteFunc(ratesOf(m), func(rates []int) bool { return !isAllowed(rates, l) })
}

func wider(r creep.Range, n int) creep.Range { return to(min(r.Lo, n), max(r.Hi, n)) }

func rangesByHand(all [][]int) []creep.Range {
	var ranges []creep.Range
	for band, n := range all[0] {
		ranges = append(ranges, to(n, n))
		for _, rates := range all {
			ranges[band] = wider(ranges[band], rates[band])
		}
	}
	return ranges
}

func stretchByHand(all [][]int, l []creep.Segment) creep.Range {
	span := stretchFor(all[0], l)
	for _, rates := range all {
		s := stretchFor(rates, l)
		span = to(min(span.Lo, s.Lo), max(span.Hi, s.Hi))
	}
	return span
}

// hoursByHand counts the hours up; the stretch is not to be long.
func hoursByHand(rate, stretch int) (n int, some bool) {
	for n*rate < stretch {
		if rate == 0 {
			return 0, false
		}
		n++
	}
	return n, true
}

func lifeByHand(all [][]int, band, stretch int) creep.Range {
	var each []int
	for _, rates := range all {
		if n, some := hoursByHand(rates[band], stretch); some {
			each = append(each, n)
		}
	}
	switch len(each) {
	case 0:
		return to(creep.Never, creep.Never)
	case len(all):
		return to(slices.Min(each), slices.Max(each))
	}
	return to(slices.Min(each), creep.Never)
}

// without returns the runs that are not in the list.
func without(l []creep.Run, list []int) []creep.Run {
	var rest []creep.Run
	for i, x := range l {
		if !slices.Contains(list, i) {
			rest = append(rest, x)
		}
	}
	return rest
}

// lists returns all rising lists of numbers below one.
func lists(below int) [][]int {
	all := [][]int{nil}
	for n := range below {
		for _, list := range all {
			all = append(all, append(slices.Clone(list), n))
		}
	}
	return all
}

// suffices returns all lists of runs without which some rates are allowed by the others, the doubtful ones first.
func suffices(m creep.Material, l []creep.Run) [][]int {
	every := ratesOf(m)
	all := slices.DeleteFunc(lists(len(l)), func(list []int) bool {
		rest := without(l, list)
		return !slices.ContainsFunc(every, func(rates []int) bool { return isAllowed(rates, rest) })
	})
	slices.SortFunc(all, func(a, b []int) int { return cmp.Or(cmp.Compare(len(a), len(b)), slices.Compare(a, b)) })
	return all
}

// isShown asks for rates that reach both ends of the stretch of a plan.
func isShown(t *testing.T, m creep.Material, l []creep.Run, p []creep.Segment) {
	t.Helper()
	span, e := creep.Stretch(m, l, p)
	low, f := creep.Shows(m, l, p, false)
	top, g := creep.Shows(m, l, p, true)
	if e != api.OK || f != api.OK || g != api.OK || len(low) != len(m.Rates) || len(top) != len(m.Rates) {
		t.Fatalf("Shows of %v, %v, %v: %v, %v; %v, %v; %v", m, l, p, low, f, top, g, e)
	}
	for _, rates := range [][]int{low, top} {
		if is, e := creep.Allows(m, l, rates); !is || e != api.OK || !isAllowed(rates, l) {
			t.Fatalf("%v is not allowed by %v, %v", rates, m, l)
		}
	}
	if stretchFor(low, p).Lo != span.Lo || stretchFor(top, p).Hi != span.Hi {
		t.Fatalf("Shows of %v, %v, %v: %v, %v, not %v", m, l, p, low, top, span)
	}
}

func between(dice *rand.Rand, r creep.Range) int { return r.Lo + dice.IntN(r.Hi-r.Lo+1) }

// anyMaterial returns one whose ranges are at most so wide.
func anyMaterial(dice *rand.Rand, wide int) creep.Material {
	for {
		var m creep.Material
		for range 1 + dice.IntN(api.MaxCreepBands) {
			low := dice.IntN(wide + 3)
			m.Rates = append(m.Rates, to(low, low+dice.IntN(wide+1)))
		}
		if len(ratesOf(m)) > 0 {
			return m
		}
	}
}

func anySegments(dice *rand.Rand, m creep.Material, most int) []creep.Segment {
	var all []creep.Segment
	for range dice.IntN(most + 1) {
		low := dice.IntN(12)
		all = append(all, stay(dice.IntN(len(m.Rates)), low, low+dice.IntN(4)))
	}
	return all
}

// stretchedBy returns a stretch by the rates, in any hours of the segments' ranges.
func stretchedBy(dice *rand.Rand, rates []int, l []creep.Segment) int {
	sum := 0
	for _, s := range l {
		sum += rates[s.Band] * between(dice, s.Hours)
	}
	return sum
}

// madeRun returns a run that was made with the rates.
func madeRun(dice *rand.Rand, m creep.Material, rates []int, most int) creep.Run {
	l := anySegments(dice, m, most)
	seen := stretchedBy(dice, rates, l)
	return run(max(0, seen-dice.IntN(9)), seen+dice.IntN(9), l...)
}

type made struct {
	creep.Material
	rates []int       // those that it has in truth
	runs  []creep.Run // made with them
}

// makings brings materials with runs of at most so many segments, the same ones each time.
func makings(number, wide, most int) iter.Seq2[*rand.Rand, made] {
	return func(bring func(*rand.Rand, made) bool) {
		dice := rand.New(rand.NewPCG(5, uint64(100*wide+most)))
		for range number {
			x := made{Material: anyMaterial(dice, wide)}
			every := ratesOf(x.Material)
			x.rates = every[dice.IntN(len(every))]
			for range dice.IntN(api.MaxCreepRuns + 1) {
				x.runs = append(x.runs, madeRun(dice, x.Material, x.rates, most))
			}
			if !bring(dice, x) {
				return
			}
		}
	}
}

// changed returns the runs with some that other rates made.
func changed(dice *rand.Rand, x made) []creep.Run {
	l := slices.Clone(x.runs)
	every := ratesOf(x.Material)
	for i := range l {
		if dice.IntN(2) == 0 {
			l[i] = madeRun(dice, x.Material, every[dice.IntN(len(every))], 3)
		}
		if dice.IntN(6) == 0 {
			l[i].Seen = to(l[i].Seen.Hi+dice.IntN(40), l[i].Seen.Hi+40)
		}
	}
	return l
}

// P5.1 to P5.5, P2
func TestByHand(t *testing.T) {
	count := map[int]int{}
	ask := func(dice *rand.Rand, m creep.Material, l []creep.Run) {
		t.Helper()
		allowsByHand(t, dice, m, l)
		want := suffices(m, l)[0]
		count[len(want)]++
		if list, e := creep.Doubtful(m, l); !slices.Equal(list, want) || e != api.OK {
			t.Fatalf("Doubtful of %v, %v: %v, %v, not %v", m, l, list, e, want)
		}
		spansByHand(t, dice, m, l)
	}
	for dice, x := range makings(1500, 5, 3) {
		ask(dice, x.Material, x.runs)
		ask(dice, x.Material, changed(dice, x))
	}
	for dice, x := range makings(30, api.MaxCreepWide, api.MaxCreepSegments) {
		ask(dice, x.Material, x.runs)
		ask(dice, x.Material, changed(dice, x))
	}
	for many := range 4 {
		if count[many] < 20 {
			t.Errorf("%v", count)
		}
	}
}

// allowsByHand asks for lists of rates of the material, and for others.
func allowsByHand(t *testing.T, dice *rand.Rand, m creep.Material, l []creep.Run) {
	t.Helper()
	every := ratesOf(m)
	for range 20 {
		rates := slices.Clone(every[dice.IntN(len(every))])
		if dice.IntN(3) == 0 {
			rates[dice.IntN(len(rates))] += dice.IntN(5) - 2
		}
		want, e := false, api.ErrRange
		if slices.ContainsFunc(every, func(list []int) bool { return slices.Equal(list, rates) }) {
			want, e = isAllowed(rates, l), api.OK
		}
		if is, f := creep.Allows(m, l, rates); is != want || f != e {
			t.Fatalf("Allows of %v, %v, %v: %v, %v", m, l, rates, is, f)
		}
	}
}

func spansByHand(t *testing.T, dice *rand.Rand, m creep.Material, l []creep.Run) {
	t.Helper()
	all := allowedBy(m, l)
	p, band, stretch := anySegments(dice, m, 4), dice.IntN(len(m.Rates)), dice.IntN(200)
	ranges, many, e := creep.Rates(m, l)
	s, f := creep.Stretch(m, l, p)
	life, g := creep.Life(m, l, band, stretch)
	if len(all) == 0 {
		if len(ranges)+many > 0 || s != to(0, 0) || life != to(0, 0) || e != api.ErrFail || f != api.ErrFail || g != api.ErrFail {
			t.Fatalf("%v, %v: %v, %d, %v; %v, %v; %v, %v", m, l, ranges, many, e, s, f, life, g)
		}
		return
	}
	if want := rangesByHand(all); !slices.Equal(ranges, want) || many != len(all) || e != api.OK {
		t.Fatalf("Rates of %v, %v: %v, %d, %v, not %v, %d", m, l, ranges, many, e, want, len(all))
	}
	if want := stretchByHand(all, p); s != want || f != api.OK {
		t.Fatalf("Stretch of %v, %v, %v: %v, %v, not %v", m, l, p, s, f, want)
	}
	if want := lifeByHand(all, band, stretch); life != want || g != api.OK {
		t.Fatalf("Life of %v, %v, %d, %d: %v, %v, not %v", m, l, band, stretch, life, g, want)
	}
	isShown(t, m, l, p)
}
