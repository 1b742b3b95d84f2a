package curve_test

import (
	"math"
	"reflect"
	"slices"
	"testing"

	"tensile/api"
	"tensile/curve"
)

func at(stretch, low, high int) curve.Point {
	return curve.Point{Stretch: stretch, Load: curve.Range{Lo: low, Hi: high}}
}

func of(points ...curve.Point) curve.Curve { return curve.Curve{Points: points} }

func by(drop, slope, offset int) curve.Rule {
	return curve.Rule{Drop: drop, Slope: slope, Offset: offset}
}

// example is the curve of the chapter's section Examples.
func example() curve.Curve {
	return of(at(0, 0, 0), at(10, 48, 52), at(20, 95, 105), at(30, 90, 96), at(40, 120, 130), at(50, 100, 110))
}

var exampleRule = by(5, 5, 4)

var kinds = []uint8{curve.Strength, curve.Yield, curve.ProofLoad, curve.Work}

func TestErrnoText(t *testing.T) {
	if s := api.OK.Error() + ", " + api.ErrNone.Error(); s != "test 0, test 7" {
		t.Errorf("Error: %q", s)
	}
}

func TestKinds(t *testing.T) {
	if !slices.Equal(kinds, []uint8{0, 1, 2, 3}) {
		t.Errorf("kinds: %v", kinds)
	}
}

// badCurves are curves that are not valid, with their errors.
func badCurves() map[string]struct {
	c curve.Curve
	e api.Errno
} {
	type bad = struct {
		c curve.Curve
		e api.Errno
	}
	full := make([]curve.Point, 21)
	for i := range full {
		full[i] = at(i, 0, 0)
	}
	return map[string]bad{
		"21 points":                {of(full...), api.ErrLimit},
		"21 points, not valid":     {of(make([]curve.Point, 21)...), api.ErrLimit},
		"nil":                      {curve.Curve{}, api.ErrArg},
		"no point":                 {of([]curve.Point{}...), api.ErrArg},
		"stretch below 0":          {of(at(-1, 0, 0)), api.ErrArg},
		"stretch too great":        {of(at(0, 0, 0), at(1001, 0, 0)), api.ErrArg},
		"equal stretches":          {of(at(5, 0, 0), at(5, 0, 0)), api.ErrArg},
		"stretches fall":           {of(at(0, 0, 0), at(5, 0, 0), at(4, 0, 0)), api.ErrArg},
		"load below 0":             {of(at(5, -1, 2)), api.ErrArg},
		"load too great":           {of(at(5, 0, 100001)), api.ErrArg},
		"load turned round":        {of(at(4, 1, 1), at(5, 3, 2)), api.ErrArg},
		"load all above":           {of(at(5, 100001, 100001)), api.ErrArg},
		"the least of all numbers": {of(at(math.MinInt, math.MinInt, math.MinInt)), api.ErrArg},
		"all numbers":              {of(at(0, math.MinInt, math.MaxInt), at(math.MaxInt, 0, 0)), api.ErrArg},
	}
}

var badRules = []curve.Rule{
	by(0, 5, 4), by(-1, 5, 4), by(100001, 5, 4),
	by(5, 0, 4), by(5, -1, 4), by(5, 1001, 4),
	by(5, 5, -1), by(5, 5, 1001),
	by(math.MaxInt, math.MaxInt, math.MinInt), {},
}

// P1.1
func TestCheckCurve(t *testing.T) {
	for name, x := range badCurves() {
		if e := curve.CheckCurve(x.c); e != x.e {
			t.Errorf("%s: %v", name, e)
		}
	}
	full := make([]curve.Point, 20)
	for i := range full {
		full[i] = at(i, 0, i)
	}
	for _, c := range []curve.Curve{example(), of(at(0, 0, 0)), of(full...), of(at(0, 0, 100000), at(1000, 100000, 100000))} {
		if e := curve.CheckCurve(c); e != api.OK {
			t.Errorf("%v: %v", c, e)
		}
	}
}

// P1.1
func TestRead(t *testing.T) {
	for _, x := range []struct {
		name  string
		c     curve.Curve
		r     curve.Rule
		truth []int
		want  curve.Result
	}{
		{"the chapter's example", example(), exampleRule, []int{0, 50, 100, 94, 125, 105},
			curve.Result{Strength: 125, Peak: 4, YieldAt: 2, Yield: 100, MeetAt: 3, ProofLoad: 97, Work: 8430}},
		{"one less than the drop", example(), exampleRule, []int{0, 50, 95, 91, 125, 105},
			curve.Result{Strength: 125, Peak: 4, YieldAt: 4, Yield: 125, MeetAt: 3, ProofLoad: 93, Work: 8270}},
		{"one point above the line", of(at(5, 7, 9)), by(1, 2, 1), []int{9},
			curve.Result{Strength: 9, YieldAt: -1, MeetAt: -1}},
		{"one point at the line", of(at(5, 7, 9)), by(1, 2, 1), []int{8},
			curve.Result{Strength: 8, YieldAt: -1, MeetAt: 0, ProofLoad: 8}},
		{"the last point does not yield", of(at(0, 1, 1), at(1, 9, 9)), by(1, 1, 1000), []int{1, 9},
			curve.Result{Strength: 9, Peak: 1, YieldAt: -1, MeetAt: -1, Work: 10}},
		{"equal loads", of(at(0, 7, 7), at(2, 7, 7), at(3, 7, 7)), by(1, 1, 1000), []int{7, 7, 7},
			curve.Result{Strength: 7, YieldAt: -1, MeetAt: -1, Work: 42}},
		{"no load", of(at(0, 0, 0), at(3, 0, 0)), by(1, 1, 1000), []int{0, 0},
			curve.Result{YieldAt: -1, MeetAt: -1}},
		{"the second of three peaks falls", of(at(0, 9, 9), at(1, 5, 5), at(3, 9, 9), at(4, 3, 3), at(5, 9, 9)), by(5, 1, 900), []int{9, 5, 9, 3, 9},
			curve.Result{Strength: 9, YieldAt: 2, Yield: 9, MeetAt: -1, Work: 66}},
		// The lines are -3 and 0: the loads 0 are above the first one and at the second one.
		{"a line below 0", of(at(3, 0, 9), at(6, 0, 9)), by(1, 1, 6), []int{0, 0},
			curve.Result{YieldAt: -1, MeetAt: 1}},
		// The lines are -10 and 10: 4 and 2 times 14 by 18 are 5 and 5/9.
		{"a line that comes from below 0", of(at(0, 4, 4), at(20, 6, 6)), by(1, 1, 10), []int{4, 6},
			curve.Result{Strength: 6, Peak: 1, YieldAt: -1, MeetAt: 1, ProofLoad: 5, Work: 200}},
		// The lines are 1 and 3: 10 less 10 times 9 by 12 is 2 and a half.
		{"a proof load between falling loads", of(at(1, 10, 10), at(3, 0, 0)), by(20, 1, 0), []int{10, 0},
			curve.Result{Strength: 10, YieldAt: -1, MeetAt: 1, ProofLoad: 2, Work: 20}},
		// The lines are 0, 3 and 6: only the first meeting counts.
		{"two meetings", of(at(0, 5, 5), at(1, 3, 3), at(2, 1, 1)), by(9, 3, 0), []int{5, 3, 1},
			curve.Result{Strength: 5, YieldAt: -1, MeetAt: 1, ProofLoad: 3, Work: 12}},
		// The lines are -1000000 and 0.
		{"the greatest numbers", of(at(0, 0, 100000), at(1000, 0, 100000)), by(100000, 1000, 1000), []int{100000, 0},
			curve.Result{Strength: 100000, Yield: 100000, MeetAt: 1, Work: 100000000}},
	} {
		if y, e := curve.Read(x.c, x.r, x.truth); y != x.want || e != api.OK {
			t.Errorf("%s: %+v, %v", x.name, y, e)
		}
	}
}

// P1.1, R1, R2
func TestReadErrors(t *testing.T) {
	good := []int{0, 50, 100, 94, 125, 105}
	for name, x := range badCurves() {
		if y, e := curve.Read(x.c, by(0, 0, -1), nil); e != x.e || y != (curve.Result{}) {
			t.Errorf("%s: %v, %v", name, y, e)
		}
	}
	for _, r := range badRules {
		for _, truth := range [][]int{good, nil} {
			if y, e := curve.Read(example(), r, truth); e != api.ErrArg || y != (curve.Result{}) {
				t.Errorf("Read by %v of %v: %v, %v", r, truth, y, e)
			}
		}
	}
	for _, truth := range [][]int{
		nil, {}, good[:5], append(slices.Clone(good), 0), make([]int, 30),
		{1, 50, 100, 94, 125, 105}, {-1, 50, 100, 94, 125, 105}, {0, 47, 100, 94, 125, 105}, {0, 50, 100, 94, 125, 111},
		{0, 50, math.MaxInt, 94, 125, 105}, {0, 50, math.MinInt, 94, 125, 105},
	} {
		if y, e := curve.Read(example(), exampleRule, truth); e != api.ErrRange || y != (curve.Result{}) {
			t.Errorf("Read of %v: %v, %v", truth, y, e)
		}
	}
}

// P1.2, P1.3, P1.4
func TestSpansAndPoints(t *testing.T) {
	type spans = [4]curve.Range
	none := curve.Range{}
	for _, x := range []struct {
		name                 string
		c                    curve.Curve
		r                    curve.Rule
		spans                spans
		peaks, yields, meets []int
	}{
		{"the chapter's example", example(), exampleRule,
			spans{{Lo: 120, Hi: 130}, {Lo: 95, Hi: 130}, {Lo: 93, Hi: 101}, {Lo: 8060, Hi: 8760}}, []int{4}, []int{2, 4}, []int{3}},
		{"one point", of(at(5, 7, 9)), by(1, 1, 5),
			spans{{Lo: 7, Hi: 9}, none, none, {}}, []int{0}, nil, nil},
		{"the first point may meet", of(at(5, 7, 9)), by(1, 2, 1),
			spans{{Lo: 7, Hi: 9}, none, {Lo: 7, Hi: 8}, {}}, []int{0}, nil, []int{0}},
		{"equal loads", of(at(0, 7, 7), at(1, 7, 7), at(2, 7, 7)), by(1, 1, 1000),
			spans{{Lo: 7, Hi: 7}, none, none, {Lo: 28, Hi: 28}}, []int{0}, nil, nil},
		{"the same range", of(at(0, 3, 7), at(1, 3, 7)), by(4, 1, 1000),
			spans{{Lo: 3, Hi: 7}, {Lo: 7, Hi: 7}, none, {Lo: 6, Hi: 14}}, []int{0, 1}, []int{0}, nil},
		// The second point yields only with a first one that does not: from 9 to 10, as 8 is 2 below 10.
		{"a drop that is surely not before", of(at(0, 10, 12), at(1, 4, 10), at(2, 6, 6)), by(2, 1, 1000),
			spans{{Lo: 10, Hi: 12}, {Lo: 9, Hi: 12}, none, {Lo: 24, Hi: 38}}, []int{0}, []int{0, 1}, nil},
		// From 20 it goes down by at most 3 at a time, to 17, 14 and 11.
		{"a slow fall", of(at(0, 20, 20), at(1, 0, 20), at(2, 0, 20), at(3, 0, 11), at(4, 0, 7)), by(4, 1, 1000),
			spans{{Lo: 20, Hi: 20}, {Lo: 11, Hi: 20}, none, {Lo: 20, Hi: 129}}, []int{0}, []int{0, 1, 2, 3}, nil},
		// The lines are -20, -10, 0 and 10.
		{"lines below 0", of(at(0, 0, 5), at(1, 0, 5), at(2, 0, 5), at(3, 0, 5)), by(9, 10, 2),
			spans{{Lo: 0, Hi: 5}, none, {Lo: 0, Hi: 5}, {Lo: 0, Hi: 30}}, []int{0, 1, 2, 3}, nil, []int{2, 3}},
		{"lines always below", of(at(0, 0, 5), at(3, 0, 5)), by(9, 1, 4),
			spans{{Lo: 0, Hi: 5}, none, none, {Lo: 0, Hi: 30}}, []int{0, 1}, nil, nil},
	} {
		for i, kind := range kinds {
			want := api.OK
			if kind == curve.Yield && x.yields == nil || kind == curve.ProofLoad && x.meets == nil {
				want = api.ErrNone
			}
			s, e := curve.Span(x.c, x.r, kind)
			if s != x.spans[i] || e != want {
				t.Errorf("%s: Span of %d: %v, %v", x.name, kind, s, e)
			}
			for _, high := range []bool{false, true} {
				truth, e := curve.Shows(x.c, x.r, kind, high)
				end := s.Lo
				if high {
					end = s.Hi
				}
				if e != want || curve.ProveRead(x.c, x.r, truth, kind, end) != (e == api.OK) || e != api.OK && len(truth) > 0 {
					t.Errorf("%s: Shows of %d, %v: %v, %v", x.name, kind, high, truth, e)
				}
			}
		}
		p, y, m, e := curve.Points(x.c, x.r)
		if !slices.Equal(p, x.peaks) || !slices.Equal(y, x.yields) || !slices.Equal(m, x.meets) || e != api.OK {
			t.Errorf("%s: Points: %v, %v, %v, %v", x.name, p, y, m, e)
		}
	}
}

// spanErrors asks Span, Shows and Points for one error, and for nothing else.
func spanErrors(t *testing.T, name string, c curve.Curve, r curve.Rule, kind uint8, want api.Errno) {
	t.Helper()
	if s, e := curve.Span(c, r, kind); e != want || s != (curve.Range{}) {
		t.Errorf("%s: Span by %v of %d: %v, %v", name, r, kind, s, e)
	}
	for _, high := range []bool{false, true} {
		if truth, e := curve.Shows(c, r, kind, high); e != want || len(truth) > 0 {
			t.Errorf("%s: Shows by %v of %d: %v, %v", name, r, kind, truth, e)
		}
	}
}

// P1.2, P1.3, P1.4, R1, R2
func TestSpanErrors(t *testing.T) {
	noPoints := func(name string, c curve.Curve, r curve.Rule, want api.Errno) {
		if p, y, m, e := curve.Points(c, r); e != want || len(p)+len(y)+len(m) > 0 {
			t.Errorf("%s: Points by %v: %v, %v, %v, %v", name, r, p, y, m, e)
		}
	}
	for name, x := range badCurves() {
		spanErrors(t, name, x.c, by(0, 0, -1), 4, x.e)
		noPoints(name, x.c, by(0, 0, -1), x.e)
	}
	for _, r := range badRules {
		spanErrors(t, "a rule that is not valid", example(), r, curve.Work, api.ErrArg)
		spanErrors(t, "a rule that is not valid", example(), r, 4, api.ErrArg)
		noPoints("a rule that is not valid", example(), r, api.ErrArg)
	}
	for _, kind := range []uint8{4, 5, 255} {
		spanErrors(t, "no such kind", example(), exampleRule, kind, api.ErrRange)
		spanErrors(t, "no such kind", of(at(0, 1, 1)), by(1, 1, 0), kind, api.ErrRange)
	}
	spanErrors(t, "nothing drops", example(), by(31, 5, 4), curve.Yield, api.ErrNone)
	spanErrors(t, "nothing meets", example(), by(5, 1, 1000), curve.ProofLoad, api.ErrNone)
}

// P1.4, R11
func TestProveRead(t *testing.T) {
	truth := []int{0, 50, 100, 94, 125, 105}
	for _, x := range []struct {
		r      curve.Rule
		truth  []int
		kind   uint8
		number int
		want   bool
	}{
		{exampleRule, truth, curve.Strength, 125, true},
		{exampleRule, truth, curve.Strength, 124, false},
		{exampleRule, truth, curve.Yield, 100, true},
		{exampleRule, truth, curve.Yield, 125, false},
		{exampleRule, truth, curve.ProofLoad, 97, true},
		{exampleRule, truth, curve.ProofLoad, 98, false},
		{exampleRule, truth, curve.Work, 8430, true},
		{exampleRule, truth, curve.Work, 4215, false},
		{exampleRule, truth, 4, 0, false},
		{exampleRule, truth, 255, 125, false},
		{by(50, 5, 4), truth, curve.Yield, 0, false},
		{by(5, 1, 1000), truth, curve.ProofLoad, 0, false},
		{by(0, 5, 4), truth, curve.Strength, 125, false},
		{exampleRule, truth[1:], curve.Strength, 125, false},
		{exampleRule, nil, curve.Strength, 0, false},
		{exampleRule, []int{0, 50, 100, 94, 131, 105}, curve.Strength, 131, false},
	} {
		if curve.ProveRead(example(), x.r, x.truth, x.kind, x.number) != x.want {
			t.Errorf("ProveRead by %v of %v, %d, %d", x.r, x.truth, x.kind, x.number)
		}
	}
	for name, x := range badCurves() {
		if curve.ProveRead(x.c, exampleRule, make([]int, len(x.c.Points)), curve.Strength, 0) {
			t.Errorf("ProveRead of %s", name)
		}
	}
	if !curve.ProveRead(of(at(3, 5, 6)), by(1, 1, 0), []int{6}, curve.Work, 0) {
		t.Error("ProveRead of the work of one point")
	}
}

// R4
func TestMemory(t *testing.T) {
	c, truth := example(), []int{0, 50, 100, 94, 125, 105}
	call := func() []any {
		x, _ := curve.Read(c, exampleRule, truth)
		p, y, m, _ := curve.Points(c, exampleRule)
		low, _ := curve.Shows(c, exampleRule, curve.Yield, false)
		high, _ := curve.Shows(c, exampleRule, curve.Yield, true)
		curve.Span(c, exampleRule, curve.ProofLoad)
		curve.ProveRead(c, exampleRule, truth, curve.Work, 8430)
		return []any{x, p, y, m, low, high}
	}
	first, second := call(), call()
	for _, result := range first {
		if list, ok := result.([]int); ok {
			list = list[:cap(list)]
			for i := range list {
				list[i] = -7
			}
		}
	}
	if !reflect.DeepEqual(second, call()) {
		t.Errorf("after results were written to: %v", second)
	}
	if !reflect.DeepEqual(c, example()) || !slices.Equal(truth, []int{0, 50, 100, 94, 125, 105}) {
		t.Errorf("arguments were written to: %v, %v", c, truth)
	}
}
