package curve_test

import (
	"iter"
	"math/rand/v2"
	"slices"
	"testing"

	"tensile/api"
	"tensile/curve"
)

// long brings curves of up to 20 points with wide ranges and numbers up to the limits, the same ones each time.
func long(many int) iter.Seq[pulled] {
	return func(bring func(pulled) bool) {
		dice := rand.New(rand.NewPCG(20, 1))
		for range many {
			c := curve.Curve{}
			top := []int{30, 1000, api.MaxCurveLoad}[dice.IntN(3)]
			for i := range 10 + dice.IntN(11) {
				a, b := dice.IntN(top+1), dice.IntN(top+1)
				c.Points = append(c.Points, at(i*50+dice.IntN(50), min(a, b), max(a, b)))
			}
			r := by(1+dice.IntN(top), 1+dice.IntN(api.MaxCurveSlope), dice.IntN(api.MaxCurveStretch+1))
			if dice.IntN(2) == 0 {
				r = by(1+dice.IntN(1+top/10), 1+dice.IntN(1+top/500), dice.IntN(500))
			}
			if !bring(pulled{c, r}) {
				return
			}
		}
	}
}

// worked works out the spans and the points from bounds alone, without any truth.
func worked(x pulled) told {
	var all told
	add := func(kind int, lo, hi int) {
		if !all.some[kind] {
			all.some[kind], all.spans[kind] = true, curve.Range{Lo: lo, Hi: hi}
		}
		all.spans[kind] = curve.Range{Lo: min(lo, all.spans[kind].Lo), Hi: max(hi, all.spans[kind].Hi)}
	}
	line := func(i int) int { return x.r.Slope * (x.c.Points[i].Stretch - x.r.Offset) }
	least, strong, lows, highs := 0, curve.Range{}, 0, 0
	undropped, unmet := true, true
	for i, p := range x.c.Points {
		lo, hi := p.Load.Lo, p.Load.Hi
		strong = curve.Range{Lo: max(strong.Lo, lo), Hi: max(strong.Hi, hi)}
		least = max(lo, least-x.r.Drop+1)
		undropped = undropped && least <= hi
		if i+1 < len(x.c.Points) && undropped {
			if from := max(least, x.c.Points[i+1].Load.Lo+x.r.Drop); from <= hi {
				add(1, from, hi)
				all.points[1] = append(all.points[1], i)
			}
		}
		if unmet && lo <= line(i) {
			all.points[2] = append(all.points[2], i)
			if i == 0 {
				add(2, lo, min(hi, line(0)))
			} else {
				a, p, q := x.c.Points[i-1].Load, line(i-1), line(i)
				cross := func(a, b int) int { return p + (q-p)*(a-p)/(a-p+q-b) }
				add(2, cross(max(a.Lo, p+1), lo), cross(a.Hi, min(hi, q)))
			}
		}
		unmet = unmet && hi > line(i)
		if i > 0 {
			before := x.c.Points[i-1]
			lows += (before.Load.Lo + lo) * (p.Stretch - before.Stretch)
			highs += (before.Load.Hi + hi) * (p.Stretch - before.Stretch)
		}
	}
	add(0, strong.Lo, strong.Hi)
	add(3, lows, highs)
	for i, p := range x.c.Points {
		above := func(j int) bool {
			return x.c.Points[j].Load.Lo > p.Load.Hi || j < i && x.c.Points[j].Load.Lo == p.Load.Hi
		}
		if !slices.ContainsFunc(indexes(x.c), above) {
			all.points[0] = append(all.points[0], i)
		}
	}
	return all
}

func indexes(c curve.Curve) []int {
	var all []int
	for i := range c.Points {
		all = append(all, i)
	}
	return all
}

// The bounds of worked are those of all truths, where these can all be gone through.
func TestWorkedBounds(t *testing.T) {
	for x := range small(3000) {
		if y, want := worked(x), tell(x); !y.equal(want) {
			t.Fatalf("%v: %v, not %v", x, y, want)
		}
	}
}

// P1.2, P1.3, P1.4, P1.6
func TestLongCurves(t *testing.T) {
	for x := range long(1500) {
		all := ask(t, x)
		if want := worked(x); !all.equal(want) {
			t.Fatalf("%v: %v, not %v", x, all, want)
		}
		for i, kind := range kinds {
			low, e := curve.Shows(x.c, x.r, kind, false)
			high, f := curve.Shows(x.c, x.r, kind, true)
			if (e == api.OK) != all.some[i] || f != e {
				t.Fatalf("Shows of %v, %d: %v, %v", x, kind, e, f)
			}
			if e == api.OK && (!curve.ProveRead(x.c, x.r, low, kind, all.spans[i].Lo) || !curve.ProveRead(x.c, x.r, high, kind, all.spans[i].Hi)) {
				t.Fatalf("Shows of %v, %d: %v, %v", x, kind, low, high)
			}
		}
	}
}

func BenchmarkSpanOfYield(b *testing.B) {
	all := slices.Collect(long(100))
	for i := range b.N {
		x := all[i%len(all)]
		curve.Span(x.c, x.r, curve.Yield)
	}
}
