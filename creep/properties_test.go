package creep_test

import (
	"math"
	"math/rand/v2"
	"reflect"
	"slices"
	"testing"

	"tensile/api"
	"tensile/creep"
)

// told is all that is told of a room: the plan and the lives are any ones, but for all rooms the same.
type told struct {
	rates    []creep.Range
	many     int
	stretch  creep.Range
	lives    []creep.Range
	doubtful []int
	e        api.Errno
}

func tell(t *testing.T, m creep.Material, l []creep.Run, p []creep.Segment) told {
	t.Helper()
	var x told
	var f, g api.Errno
	x.rates, x.many, x.e = creep.Rates(m, l)
	x.stretch, f = creep.Stretch(m, l, p)
	x.doubtful, g = creep.Doubtful(m, l)
	if x.e != f || g != api.OK || (x.e == api.OK) != (len(x.doubtful) == 0) {
		t.Fatalf("%v, %v: %v, %v, %v, %v", m, l, x.e, f, g, x.doubtful)
	}
	for band := range m.Rates {
		for _, stretch := range []int{0, 1, 60, 10000000000} {
			life, e := creep.Life(m, l, band, stretch)
			if e != x.e {
				t.Fatalf("Life of %v, %v: %v, not %v", m, l, e, x.e)
			}
			x.lives = append(x.lives, life)
		}
	}
	return x
}

// inLife reports whether a number of hours, or Never, is in the span of a life.
func inLife(span creep.Range, n int) bool {
	late := func(n int) int {
		if n == creep.Never {
			return math.MaxInt
		}
		return n
	}
	return late(span.Lo) <= late(n) && late(n) <= late(span.Hi)
}

// P5.6, P2
func TestWhateverTheRatesAre(t *testing.T) {
	for dice, x := range makings(2000, 8, api.MaxCreepSegments) {
		if is, e := creep.Allows(x.Material, x.runs, x.rates); !is || e != api.OK {
			t.Fatalf("Allows of %v: %v, %v", x, is, e)
		}
		if l, e := creep.Doubtful(x.Material, x.runs); len(l) > 0 || e != api.OK {
			t.Fatalf("Doubtful of %v: %v, %v", x, l, e)
		}
		ranges, many, e := creep.Rates(x.Material, x.runs)
		if many < 1 || e != api.OK {
			t.Fatalf("Rates of %v: %d, %v", x, many, e)
		}
		for band, n := range x.rates {
			stretch := dice.IntN(300)
			life, e := creep.Life(x.Material, x.runs, band, stretch)
			hours, some := hoursByHand(n, stretch)
			if !some {
				hours = creep.Never
			}
			if !has(ranges[band], n) || !inLife(life, hours) || e != api.OK {
				t.Fatalf("the band %d of %v: %v; for %d %v, %v", band, x, ranges[band], stretch, life, e)
			}
		}
		p := anySegments(dice, x.Material, api.MaxCreepSegments)
		if s, e := creep.Stretch(x.Material, x.runs, p); !has(s, stretchedBy(dice, x.rates, p)) || e != api.OK {
			t.Fatalf("Stretch of %v, %v: %v, %v", x, p, s, e)
		}
	}
}

// cut returns the segments with one of them cut into two, the one before the other.
func cut(dice *rand.Rand, l []creep.Segment) []creep.Segment {
	if len(l) == 0 || len(l) == api.MaxCreepSegments {
		return l
	}
	i := dice.IntN(len(l))
	s := l[i]
	low := dice.IntN(s.Hours.Lo + 1)
	high := low + dice.IntN(s.Hours.Hi-s.Hours.Lo+1)
	return slices.Concat(l[:i], plan(stay(s.Band, low, high), stay(s.Band, s.Hours.Lo-low, s.Hours.Hi-high)), l[i+1:])
}

// cutRuns returns the runs with a segment of one of them cut, or a stay of 0 hours.
func cutRuns(dice *rand.Rand, m creep.Material, l []creep.Run) []creep.Run {
	l = slices.Clone(l)
	if len(l) == 0 {
		return l
	}
	i := dice.IntN(len(l))
	l[i].Segments = cut(dice, l[i].Segments)
	j := dice.IntN(len(l))
	l[j].Segments = withNothing(dice, m, l[j].Segments)
	return l
}

func withNothing(dice *rand.Rand, m creep.Material, l []creep.Segment) []creep.Segment {
	if len(l) == api.MaxCreepSegments {
		return l
	}
	return slices.Insert(slices.Clone(l), dice.IntN(len(l)+1), stay(dice.IntN(len(m.Rates)), 0, 0))
}

// P5.7
func TestCutByPower(t *testing.T) {
	for dice, x := range makings(500, 5, 4) {
		p := anySegments(dice, x.Material, 4)
		for _, l := range [][]creep.Run{x.runs, changed(dice, x)} {
			before := tell(t, x.Material, l, p)
			for range 4 {
				other, q := cutRuns(dice, x.Material, l), withNothing(dice, x.Material, cut(dice, p))
				if behind := tell(t, x.Material, other, q); !reflect.DeepEqual(before, behind) {
					t.Fatalf("%v, %v, %v: %v; %v, %v: %v", x.Material, l, p, before, other, q, behind)
				}
			}
		}
	}
}

// isNarrower reports whether all that is told is no wider than it was.
func isNarrower(before, behind told) bool {
	fits := behind.many <= before.many && within(behind.stretch, before.stretch)
	for band, r := range behind.rates {
		fits = fits && within(r, before.rates[band])
	}
	for i, life := range behind.lives {
		fits = fits && inLife(before.lives[i], life.Lo) && inLife(before.lives[i], life.Hi)
	}
	return fits
}

// P5.8
func TestOneMoreRun(t *testing.T) {
	count := map[api.Errno]int{}
	narrower := 0
	for dice, x := range makings(1500, 5, 3) {
		l := changed(dice, x)
		if len(l) == 0 {
			continue
		}
		p := anySegments(dice, x.Material, 4)
		before, behind := tell(t, x.Material, l[1:], p), tell(t, x.Material, l, p)
		if before.e != api.OK && behind.e != api.ErrFail || behind.e == api.OK && !isNarrower(before, behind) {
			t.Fatalf("%v, %v, %v: %v, without the first one %v", x.Material, l, p, behind, before)
		}
		if behind.many < before.many {
			narrower++
		}
		count[behind.e]++
	}
	if count[api.OK] < 200 || count[api.ErrFail] < 200 || narrower < 200 {
		t.Errorf("%v, %d with fewer rates", count, narrower)
	}
}

// P5.8
func TestOneMoreRunOfAll(t *testing.T) {
	for dice, x := range makings(500, 5, 3) {
		l := changed(dice, x)
		l = l[:min(len(l), api.MaxCreepRuns-1)]
		p := anySegments(dice, x.Material, 4)
		segments := anySegments(dice, x.Material, api.MaxCreepSegments)
		all := stretchByHand(ratesOf(x.Material), segments)
		before := tell(t, x.Material, l, p)
		for _, seen := range []creep.Range{all, to(0, api.MaxCreepStretch), to(max(0, all.Lo-1), all.Hi+1)} {
			more := append(slices.Clone(l), run(seen.Lo, seen.Hi, segments...))
			if behind := tell(t, x.Material, more, p); !reflect.DeepEqual(before, behind) {
				t.Fatalf("%v, %v, %v: %v, not %v", x.Material, more, p, behind, before)
			}
		}
	}
}

// P5.9: with rates and hours as great as they may be, too.
func TestEndsAreReached(t *testing.T) {
	for dice, x := range makings(500, 12, api.MaxCreepSegments) {
		p := anySegments(dice, x.Material, api.MaxCreepSegments)
		for i := range p {
			high := dice.IntN(api.MaxCreepHours + 1)
			p[i].Hours = to(dice.IntN(high+1), high)
		}
		isShown(t, x.Material, x.runs, p)
		for band, r := range x.Rates {
			x.Rates[band] = to(r.Lo+940, r.Hi+940)
		}
		isShown(t, x.Material, nil, p)
	}
}

// P5.10
func TestLongerAndHotter(t *testing.T) {
	hotter := 0
	for dice, x := range makings(2000, 6, 3) {
		p := anySegments(dice, x.Material, api.MaxCreepSegments)
		if len(p) == 0 {
			continue
		}
		span, e := creep.Stretch(x.Material, x.runs, p)
		more := slices.Clone(p)
		i := dice.IntN(len(p))
		if dice.IntN(2) == 0 {
			more[i].Hours.Hi += dice.IntN(9)
			more[i].Hours.Lo += dice.IntN(more[i].Hours.Hi - more[i].Hours.Lo + 1)
		} else {
			more[i].Band += dice.IntN(len(x.Rates) - more[i].Band)
			hotter += more[i].Band - p[i].Band
		}
		other, f := creep.Stretch(x.Material, x.runs, more)
		if other.Lo < span.Lo || other.Hi < span.Hi || e != api.OK || f != api.OK {
			t.Fatalf("%v: %v has %v, %v has %v", x, p, span, more, other)
		}
		var sum creep.Range
		for _, s := range p {
			one, _ := creep.Stretch(x.Material, x.runs, plan(s))
			sum = to(sum.Lo+one.Lo, sum.Hi+one.Hi)
		}
		if span.Lo < sum.Lo || span.Hi > sum.Hi {
			t.Fatalf("%v, %v: %v, not in %v", x, p, span, sum)
		}
	}
	if hotter < 100 {
		t.Errorf("%d bands hotter", hotter)
	}
}

// staying returns a plan of so many hours in a band.
func staying(band, hours int) []creep.Segment {
	var p []creep.Segment
	for hours > 0 {
		n := min(hours, api.MaxCreepHours)
		p = append(p, stay(band, n, n))
		hours -= n
	}
	return p
}

// P5.11
func TestLifeIsReached(t *testing.T) {
	count := map[string]int{}
	for dice, x := range makings(1000, 6, 3) {
		for range 10 {
			band, stretch := dice.IntN(len(x.Rates)), dice.IntN(api.MaxCreepHours)
			if dice.IntN(2) == 0 {
				stretch = dice.IntN(50)
			}
			life, e := creep.Life(x.Material, x.runs, band, stretch)
			if e != api.OK || life.Lo == creep.Never && life.Hi != creep.Never {
				t.Fatalf("Life of %v, %d, %d: %v, %v", x, band, stretch, life, e)
			}
			before := life.Lo - 1
			if life.Lo == creep.Never {
				count["never at all"]++
				before = api.MaxCreepHours * api.MaxCreepSegments
			}
			if s, e := creep.Stretch(x.Material, x.runs, staying(band, before)); before >= 0 && (s.Hi >= stretch || e != api.OK) {
				t.Fatalf("Life of %v, %d, %d: %v, but before it %v, %v", x, band, stretch, life, s, e)
			}
			if life.Hi == creep.Never {
				count["never"]++
				continue
			}
			count["surely"]++
			if s, e := creep.Stretch(x.Material, x.runs, staying(band, life.Hi)); s.Lo < stretch || e != api.OK {
				t.Fatalf("Life of %v, %d, %d: %v, but behind it %v, %v", x, band, stretch, life, s, e)
			}
		}
	}
	if count["never at all"] < 20 || count["never"] < 100 || count["surely"] < 1000 {
		t.Errorf("%v", count)
	}
}

// P5.12, P5
func TestFewestRuns(t *testing.T) {
	count := map[int]int{}
	for dice, x := range makings(2000, 5, 3) {
		l := changed(dice, x)
		doubtful, e := creep.Doubtful(x.Material, l)
		count[len(doubtful)]++
		if !slices.IsSorted(doubtful) || e != api.OK {
			t.Fatalf("Doubtful of %v, %v: %v, %v", x.Material, l, doubtful, e)
		}
		if _, many, e := creep.Rates(x.Material, without(l, doubtful)); many == 0 || e != api.OK {
			t.Fatalf("Rates of %v, %v without %v: %v", x.Material, l, doubtful, e)
		}
		for _, list := range lists(len(l)) {
			if _, _, e := creep.Rates(x.Material, without(l, list)); e == api.OK && len(list) < len(doubtful) {
				t.Fatalf("Doubtful of %v, %v: %v, not %v", x.Material, l, doubtful, list)
			}
		}
	}
	for many := range 4 {
		if count[many] < 20 {
			t.Errorf("%v", count)
		}
	}
}

// P6: in any order; of the doubtful runs as many are named, as which ones depends on the order.
func TestAnyOrder(t *testing.T) {
	for dice, x := range makings(500, 5, 4) {
		l, p := changed(dice, x), anySegments(dice, x.Material, 4)
		before := tell(t, x.Material, l, p)
		other := slices.Clone(l)
		dice.Shuffle(len(other), func(i, j int) { other[i], other[j] = other[j], other[i] })
		for i := range other {
			other[i].Segments = slices.Clone(other[i].Segments)
			slices.Reverse(other[i].Segments)
		}
		slices.Reverse(p)
		behind := tell(t, x.Material, other, p)
		if len(before.doubtful) != len(behind.doubtful) {
			t.Fatalf("%v, %v: %v; %v: %v", x.Material, l, before, other, behind)
		}
		before.doubtful, behind.doubtful = nil, nil
		if !reflect.DeepEqual(before, behind) {
			t.Fatalf("%v, %v: %v; %v: %v", x.Material, l, before, other, behind)
		}
	}
}

// P1
func TestAnyArguments(t *testing.T) {
	dice := rand.New(rand.NewPCG(1, 1))
	wild := func() int {
		return []int{math.MinInt, math.MaxInt, -1, 0, 1, 2, 3, 20, 21, 1000, 1001, 1000000, 1000001, 10000000000, 10000000001}[dice.IntN(15)]
	}
	rarely := func(n int) int {
		if dice.IntN(25) == 0 {
			return wild()
		}
		return n
	}
	segments := func() []creep.Segment {
		var l []creep.Segment
		for range rarely(dice.IntN(4)) & 15 {
			l = append(l, stay(rarely(0), rarely(1), rarely(2)))
		}
		return l
	}
	for range 20000 {
		var m creep.Material
		for range dice.IntN(5) {
			m.Rates = append(m.Rates, to(rarely(1), rarely(3)))
		}
		var l []creep.Run
		for range dice.IntN(4) {
			l = append(l, run(rarely(0), rarely(9), segments()...))
		}
		p := segments()
		rates := []int{rarely(2), rarely(2), rarely(3), 3}[:dice.IntN(5)]
		creep.CheckMaterial(m)
		creep.Allows(m, l, rates)
		creep.Rates(m, l)
		creep.Stretch(m, l, p)
		creep.Life(m, l, rarely(0), rarely(5))
		creep.Shows(m, l, p, dice.IntN(2) == 0)
		creep.Doubtful(m, l)
	}
}
