package curve_test

import (
	"iter"
	"math/rand/v2"
	"slices"
	"testing"

	"tensile/api"
	"tensile/curve"
)

// pulled is a curve with a rule.
type pulled struct {
	c curve.Curve
	r curve.Rule
}

// small brings curves that have few truths, the same ones each time.
func small(many int) iter.Seq[pulled] {
	return func(bring func(pulled) bool) {
		dice := rand.New(rand.NewPCG(1, 12))
		for range many {
			c := curve.Curve{}
			stretch := dice.IntN(3)
			for range 1 + dice.IntN(5) {
				low := dice.IntN(9)
				c.Points = append(c.Points, at(stretch, low, low+dice.IntN(4)))
				stretch += 1 + dice.IntN(3)
			}
			if !bring(pulled{c, by(1+dice.IntN(5), 1+dice.IntN(4), dice.IntN(7))}) {
				return
			}
		}
	}
}

// truths brings all truths of a curve.
func truths(c curve.Curve) iter.Seq[[]int] {
	return func(bring func([]int) bool) {
		var give func(truth []int) bool
		give = func(truth []int) bool {
			if len(truth) == len(c.Points) {
				return bring(slices.Clone(truth))
			}
			load := c.Points[len(truth)].Load
			for n := load.Lo; n <= load.Hi; n++ {
				if !give(append(truth, n)) {
					return false
				}
			}
			return true
		}
		give(nil)
	}
}

// isTruth reports whether the list has a load of each point's range.
func isTruth(c curve.Curve, list []int) bool {
	if len(list) != len(c.Points) {
		return false
	}
	for i, n := range list {
		if n < c.Points[i].Load.Lo || n > c.Points[i].Load.Hi {
			return false
		}
	}
	return true
}

// toRead brings small curves with each of their truths.
func toRead(many int) iter.Seq2[pulled, []int] {
	return func(bring func(pulled, []int) bool) {
		for x := range small(many) {
			for truth := range truths(x.c) {
				if !bring(x, truth) {
					return
				}
			}
		}
	}
}

func read(t *testing.T, x pulled, truth []int) curve.Result {
	t.Helper()
	y, e := curve.Read(x.c, x.r, truth)
	if e != api.OK {
		t.Fatalf("Read of %v by %v: %v", x, truth, e)
	}
	return y
}

// byHand reads a truth word for word as the chapter says it.
func byHand(x pulled, truth []int) curve.Result {
	line := func(i int) int { return x.r.Slope * (x.c.Points[i].Stretch - x.r.Offset) }
	y := curve.Result{Strength: -1, YieldAt: -1, MeetAt: -1}
	for i, load := range truth {
		if load > y.Strength {
			y.Strength, y.Peak = load, i
		}
		if y.YieldAt < 0 && i+1 < len(truth) && load >= truth[i+1]+x.r.Drop {
			y.YieldAt, y.Yield = i, load
		}
		if y.MeetAt < 0 && load <= line(i) {
			y.MeetAt, y.ProofLoad = i, load
			if i > 0 {
				a, b, p, q := truth[i-1], load, line(i-1), line(i)
				over, under := (b-a)*(a-p), a-p+q-b
				y.ProofLoad = a + over/under
				if over < 0 && over%under != 0 {
					y.ProofLoad--
				}
			}
		}
		if i > 0 {
			y.Work += (truth[i-1] + load) * (x.c.Points[i].Stretch - x.c.Points[i-1].Stretch)
		}
	}
	return y
}

// numbers are what a result has of each kind; has tells of which kinds it has any.
func numbers(y curve.Result) [4]int { return [4]int{y.Strength, y.Yield, y.ProofLoad, y.Work} }

func has(y curve.Result) [4]bool { return [4]bool{true, y.YieldAt >= 0, y.MeetAt >= 0, true} }

func points(y curve.Result) [3]int { return [3]int{y.Peak, y.YieldAt, y.MeetAt} }

// told has what all truths of a curve tell: the least and the greatest of each kind, and the points.
type told struct {
	some   [4]bool
	spans  [4]curve.Range
	points [3][]int
}

func tell(x pulled) told {
	var all told
	var may [3][api.MaxCurvePoints]bool
	for truth := range truths(x.c) {
		y := byHand(x, truth)
		for i, n := range numbers(y) {
			if !has(y)[i] {
				continue
			}
			if !all.some[i] {
				all.some[i], all.spans[i] = true, curve.Range{Lo: n, Hi: n}
			}
			all.spans[i] = curve.Range{Lo: min(n, all.spans[i].Lo), Hi: max(n, all.spans[i].Hi)}
		}
		for i, p := range points(y) {
			if p >= 0 {
				may[i][p] = true
			}
		}
	}
	for i := range may {
		for p, is := range may[i] {
			if is {
				all.points[i] = append(all.points[i], p)
			}
		}
	}
	return all
}

// ask returns what Span and Points tell.
func ask(t *testing.T, x pulled) told {
	t.Helper()
	var all told
	for i, kind := range kinds {
		s, e := curve.Span(x.c, x.r, kind)
		if e != api.OK && e != api.ErrNone {
			t.Fatalf("Span of %v, %d: %v", x, kind, e)
		}
		all.some[i], all.spans[i] = e == api.OK, s
	}
	p, y, m, e := curve.Points(x.c, x.r)
	if e != api.OK {
		t.Fatalf("Points of %v: %v", x, e)
	}
	all.points = [3][]int{p, y, m}
	return all
}

func (a told) equal(b told) bool {
	for i := range a.points {
		if !slices.Equal(a.points[i], b.points[i]) {
			return false
		}
	}
	return a.some == b.some && a.spans == b.spans
}

// covers reports whether all that b tells is among what a tells.
func (a told) covers(b told) bool {
	for i := range b.spans {
		if b.some[i] && (!a.some[i] || b.spans[i].Lo < a.spans[i].Lo || b.spans[i].Hi > a.spans[i].Hi) {
			return false
		}
	}
	for i := range b.points {
		for _, p := range b.points[i] {
			if !slices.Contains(a.points[i], p) {
				return false
			}
		}
	}
	return true
}

// P1.1
func TestReadOfEachTruth(t *testing.T) {
	for x, truth := range toRead(500) {
		if y := read(t, x, truth); y != byHand(x, truth) {
			t.Fatalf("Read of %v by %v: %+v", x, truth, y)
		}
	}
}

// P1.2, P1.3
func TestSpansOfAllTruths(t *testing.T) {
	for x := range small(3000) {
		if y, want := ask(t, x), tell(x); !y.equal(want) {
			t.Fatalf("%v: %v, not %v", x, y, want)
		}
	}
}

// P1.4
func TestShowsOfAllKinds(t *testing.T) {
	for x := range small(2000) {
		want := tell(x)
		for i, kind := range kinds {
			for _, high := range []bool{false, true} {
				truth, e := curve.Shows(x.c, x.r, kind, high)
				if !want.some[i] {
					if e != api.ErrNone || len(truth) > 0 {
						t.Fatalf("Shows of %v, %d: %v, %v", x, kind, truth, e)
					}
					continue
				}
				end := want.spans[i].Lo
				if high {
					end = want.spans[i].Hi
				}
				if e != api.OK || !isTruth(x.c, truth) || numbers(byHand(x, truth))[i] != end {
					t.Fatalf("Shows of %v, %d, %v: %v, %v", x, kind, high, truth, e)
				}
			}
		}
	}
}

// P1.4
func TestProveReadOfEachTruth(t *testing.T) {
	for x, truth := range toRead(200) {
		y := byHand(x, truth)
		is := has(y)
		for i, n := range numbers(y) {
			for number := n - 1; number <= n+1; number++ {
				if curve.ProveRead(x.c, x.r, truth, kinds[i], number) != (is[i] && number == n) {
					t.Fatalf("ProveRead of %v, %v, %d, %d", x, truth, kinds[i], number)
				}
			}
		}
	}
}

// P1.5
func TestWhateverWasRead(t *testing.T) {
	for x := range small(500) {
		all := ask(t, x)
		for truth := range truths(x.c) {
			y := read(t, x, truth)
			one := told{some: has(y)}
			for i, n := range numbers(y) {
				one.spans[i] = curve.Range{Lo: n, Hi: n}
			}
			for i, p := range points(y) {
				if p >= 0 {
					one.points[i] = []int{p}
				}
			}
			if !all.covers(one) {
				t.Fatalf("%v: %v is not within %v", x, one, all)
			}
		}
	}
}

// P1.6
func TestEnds(t *testing.T) {
	for x := range small(500) {
		all := ask(t, x)
		var ends [4][2]bool
		var met [3][api.MaxCurvePoints]bool
		for truth := range truths(x.c) {
			y := read(t, x, truth)
			is := has(y)
			for i, n := range numbers(y) {
				ends[i][0] = ends[i][0] || is[i] && n == all.spans[i].Lo
				ends[i][1] = ends[i][1] || is[i] && n == all.spans[i].Hi
			}
			for i, p := range points(y) {
				if p >= 0 {
					met[i][p] = true
				}
			}
		}
		for i := range ends {
			if all.some[i] && ends[i] != [2]bool{true, true} {
				t.Fatalf("%v: the ends of %d: %v", x, i, ends[i])
			}
		}
		for i := range all.points {
			for _, p := range all.points[i] {
				if !met[i][p] {
					t.Fatalf("%v: the point %d of %d", x, p, i)
				}
			}
		}
	}
}

// P1.7
func TestBetterReadings(t *testing.T) {
	for x := range small(1000) {
		all := ask(t, x)
		for i, p := range x.c.Points {
			if p.Load.Lo == p.Load.Hi {
				continue
			}
			for _, load := range []curve.Range{{Lo: p.Load.Lo + 1, Hi: p.Load.Hi}, {Lo: p.Load.Lo, Hi: p.Load.Hi - 1}} {
				better := pulled{of(slices.Clone(x.c.Points)...), x.r}
				better.c.Points[i].Load = load
				if y := ask(t, better); !all.covers(y) {
					t.Fatalf("%v tells %v, %v tells %v", x, all, better, y)
				}
			}
		}
	}
}

// notEarlier reports whether a point is not earlier than another one, or there is none.
func notEarlier(at, other int) bool { return at < 0 || other >= 0 && at >= other }

// P1.8
func TestGreaterDrop(t *testing.T) {
	for x, truth := range toRead(200) {
		before := read(t, x, truth)
		for range 4 {
			x.r.Drop++
			y := read(t, x, truth)
			if !notEarlier(y.YieldAt, before.YieldAt) {
				t.Fatalf("%v, %v: %v behind %v", x, truth, y, before)
			}
			before = y
		}
	}
}

// P1.9
func TestSetOffFurther(t *testing.T) {
	for x, truth := range toRead(200) {
		before := read(t, x, truth)
		for range 4 {
			x.r.Offset++
			y := read(t, x, truth)
			if !notEarlier(y.MeetAt, before.MeetAt) {
				t.Fatalf("%v, %v: %v behind %v", x, truth, y, before)
			}
			before = y
		}
	}
}

// P1.10: as a drop is of whole numbers, a span need not be just as many times as great; what is read in a truth is.
func TestUnitsOfLoad(t *testing.T) {
	for x, truth := range toRead(200) {
		y := read(t, x, truth)
		for _, times := range []int{2, 7, 100} {
			great := pulled{of(slices.Clone(x.c.Points)...), by(x.r.Drop*times, x.r.Slope*times, x.r.Offset)}
			loads := slices.Clone(truth)
			for i := range loads {
				load := &great.c.Points[i].Load
				load.Lo, load.Hi, loads[i] = load.Lo*times, load.Hi*times, loads[i]*times
			}
			z := read(t, great, loads)
			want := y
			want.Strength, want.Yield, want.Work, want.ProofLoad = y.Strength*times, y.Yield*times, y.Work*times, z.ProofLoad
			if z != want || z.ProofLoad < y.ProofLoad*times || z.ProofLoad >= (y.ProofLoad+1)*times {
				t.Fatalf("%v, %v, %d times: %v, not %v", x, truth, times, z, want)
			}
		}
	}
}

// P1.10
func TestUnitsOfStretch(t *testing.T) {
	for x := range small(500) {
		all := ask(t, x)
		for _, more := range []int{1, 10, 900} {
			far := pulled{of(slices.Clone(x.c.Points)...), x.r}
			far.r.Offset += more
			for i := range far.c.Points {
				far.c.Points[i].Stretch += more
			}
			if y := ask(t, far); !y.equal(all) {
				t.Fatalf("%v tells %v, %v tells %v", x, all, far, y)
			}
			for truth := range truths(x.c) {
				if y, z := read(t, x, truth), read(t, far, truth); y != z {
					t.Fatalf("%v, %v: %v, not %v", far, truth, z, y)
				}
			}
		}
	}
}

// P1.11
func TestPulledOn(t *testing.T) {
	for x, truth := range toRead(200) {
		y := read(t, x, truth)
		last := x.c.Points[len(x.c.Points)-1].Stretch
		for load := range 14 {
			on := pulled{of(append(slices.Clone(x.c.Points), at(last+2, 0, 13))...), x.r}
			z := read(t, on, append(slices.Clone(truth), load))
			switch {
			case y.YieldAt >= 0 && (z.YieldAt != y.YieldAt || z.Yield != y.Yield),
				y.MeetAt >= 0 && (z.MeetAt != y.MeetAt || z.ProofLoad != y.ProofLoad),
				z.Strength < y.Strength, z.Work < y.Work,
				z.Peak != y.Peak && z.Peak != len(truth):
				t.Fatalf("%v, %v, %d: %v behind %v", x, truth, load, z, y)
			}
		}
	}
}

// P1.12
func TestOrder(t *testing.T) {
	for x, truth := range toRead(500) {
		y := read(t, x, truth)
		if y.Yield > y.Strength {
			t.Fatalf("%v, %v: %v", x, truth, y)
		}
		if y.MeetAt < 1 {
			continue
		}
		a, b := truth[y.MeetAt-1], truth[y.MeetAt]
		line := x.r.Slope * (x.c.Points[y.MeetAt-1].Stretch - x.r.Offset)
		if y.ProofLoad < min(a, b) || y.ProofLoad > max(a, b) || y.ProofLoad < line {
			t.Fatalf("%v, %v: %v", x, truth, y)
		}
	}
}
