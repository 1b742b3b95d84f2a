package hard_test

import (
	"math"
	"math/rand/v2"
	"reflect"
	"slices"
	"testing"

	"tensile/api"
	"tensile/hard"
)

// told is all that is told of a specimen.
type told struct {
	spans    []hard.Range
	doubtful []int
	e        api.Errno
}

func tell(t *testing.T, b hard.Book, l []hard.Reading) told {
	t.Helper()
	var x told
	var f api.Errno
	x.spans, x.e = hard.Spans(b, l)
	x.doubtful, f = hard.Doubtful(b, l)
	spoilt := x.e == api.ErrSpoil && f == api.ErrSpoil && len(x.doubtful) == 0
	if !spoilt && (f != api.OK || (x.e == api.OK) != (len(x.doubtful) == 0)) {
		t.Fatalf("%v, %v: %v, %v, %v", b, l, x.e, f, x.doubtful)
	}
	return x
}

// isNoWider asks whether no span has become wider, or the readings do not fit together any more, or a machine is off.
func isNoWider(before, behind told) bool {
	switch {
	case before.e == api.ErrSpoil:
		return behind.e == api.ErrSpoil
	case before.e == api.ErrFail || behind.e != api.OK:
		return behind.e == api.ErrFail || behind.e == api.ErrSpoil
	}
	for scale, r := range behind.spans {
		if !within(r, before.spans[scale]) {
			return false
		}
	}
	return true
}

// kinds counts how often the spans have become narrower, or there are none.
type kinds map[string]int

func (k kinds) add(before, behind told) {
	switch {
	case behind.e == api.ErrSpoil:
		k["off"]++
	case behind.e == api.ErrFail && before.e == api.OK:
		k["fail"]++
	case behind.e == api.OK && !slices.Equal(before.spans, behind.spans):
		k["narrower"]++
	}
}

func (k kinds) isMissing(t *testing.T, atLeast int, each ...string) {
	t.Helper()
	for _, x := range each {
		if k[x] < atLeast {
			t.Errorf("%v", k)
		}
	}
}

// clone returns a book in memory of its own.
func clone(b hard.Book) hard.Book {
	b.Tables, b.Machines = slices.Clone(b.Tables), slices.Clone(b.Machines)
	for i, x := range b.Tables {
		b.Tables[i].Rows, b.Tables[i].Breaks = slices.Clone(x.Rows), slices.Clone(x.Breaks)
	}
	for i, m := range b.Machines {
		b.Machines[i].Blocks = slices.Clone(m.Blocks)
	}
	return b
}

// P6.6, P2
func TestWhateverIsTrue(t *testing.T) {
	known := 0
	for _, highest := range []int{25, 60, 900} {
		for _, x := range makings(1500, highest) {
			if !hard.ProveFit(x.Book, x.readings, x.values) {
				t.Fatalf("%v do not fit %v, %v", x.values, x.Book, x.readings)
			}
			y := tell(t, x.Book, x.readings)
			if y.e != api.OK {
				t.Fatalf("%v, %v: %v", x.Book, x.readings, y)
			}
			for scale, v := range x.values {
				if !has(y.spans[scale], v) {
					t.Fatalf("%v, %v: %v, but %d is %d", x.Book, x.readings, y.spans, scale, v)
				}
				if y.spans[scale] != all() {
					known++
				}
			}
		}
	}
	if known < 4000 {
		t.Errorf("%d spans", known)
	}
}

// P6.6: with readings that may not fit, all values of two scales.
func TestAllThatFit(t *testing.T) {
	count := 0
	for dice, x := range makings(1200, 30) {
		l := changed(dice, x)
		if x.Scales != 2 || len(l) == 0 {
			continue
		}
		y := tell(t, x.Book, l)
		for v := range 45 {
			for other := range 45 {
				if !hard.ProveFit(x.Book, l, []int{v, other}) {
					continue
				}
				if y.e != api.OK || !has(y.spans[0], v) || !has(y.spans[1], other) {
					t.Fatalf("%v, %v: %v, but %d and %d fit", x.Book, l, y, v, other)
				}
				count++
			}
		}
	}
	if count < 5000 {
		t.Errorf("%d fit", count)
	}
}

func shuffle[T any](dice *rand.Rand, l []T) {
	dice.Shuffle(len(l), func(i, j int) { l[i], l[j] = l[j], l[i] })
}

// P6.7, P6; of the doubtful readings as many are named, as which ones depends on the order.
func TestAnyOrder(t *testing.T) {
	for dice, x := range makings(1500, 40) {
		l := changed(dice, x)
		before := tell(t, x.Book, l)
		for range 4 {
			b, m := clone(x.Book), slices.Clone(l)
			shuffle(dice, m)
			shuffle(dice, b.Tables)
			for i := range b.Machines {
				shuffle(dice, b.Machines[i].Blocks)
			}
			behind := tell(t, b, m)
			if !slices.Equal(before.spans, behind.spans) || before.e != behind.e || len(before.doubtful) != len(behind.doubtful) {
				t.Fatalf("%v, %v: %v; %v, %v: %v", x.Book, l, before, b, m, behind)
			}
		}
	}
}

// P6.8
func TestOneMoreReading(t *testing.T) {
	count := kinds{}
	for dice, x := range makings(3000, 40) {
		l := changed(dice, x)
		if len(l) == 0 {
			continue
		}
		before, behind := tell(t, x.Book, l[1:]), tell(t, x.Book, l)
		if !isNoWider(before, behind) {
			t.Fatalf("%v, %v: %v, without the first one %v", x.Book, l, behind, before)
		}
		count.add(before, behind)
	}
	count.isMissing(t, 100, "narrower", "fail")
}

// P6.8
func TestOneMoreTable(t *testing.T) {
	count := kinds{}
	for dice, x := range makings(15000, 40) {
		if len(x.Tables) == 0 {
			continue
		}
		l, b := changed(dice, x), clone(x.Book)
		b.Tables = slices.Delete(b.Tables, 0, 1)
		if dice.IntN(2) == 0 {
			x.Tables[0] = anyTable(dice, x.Tables[0].From, x.Tables[0].To, 40)
		}
		before, behind := tell(t, b, l), tell(t, x.Book, l)
		if !isNoWider(before, behind) {
			t.Fatalf("%v, %v: %v, without the first table %v", x.Book, l, behind, before)
		}
		count.add(before, behind)
	}
	count.isMissing(t, 50, "narrower", "fail")
}

// P6.8
func TestOneMoreBlock(t *testing.T) {
	count := kinds{}
	for dice, x := range makings(3000, 40) {
		l, b := changed(dice, x), clone(x.Book)
		for i := range b.Machines {
			if m := &b.Machines[i]; len(m.Blocks) > 0 && dice.IntN(2) == 0 {
				x.Machines[i].Blocks[0].Read += dice.IntN(4)
				m.Blocks = slices.Delete(m.Blocks, 0, 1)
			}
		}
		before, behind := tell(t, b, l), tell(t, x.Book, l)
		if !isNoWider(before, behind) {
			t.Fatalf("%v, %v: %v, with %v %v", b, l, before, x.Book, behind)
		}
		count.add(before, behind)
	}
	count.isMissing(t, 50, "narrower", "fail", "off")
}

// P6.9
func TestFiner(t *testing.T) {
	count := kinds{}
	for dice, x := range makings(3000, 40) {
		l, b := changed(dice, x), clone(x.Book)
		for i := range b.Tables {
			b.Tables[i].Err -= dice.IntN(b.Tables[i].Err + 1)
		}
		errs := tell(t, b, l)
		for i := range b.Machines {
			for j := range b.Machines[i].Blocks {
				v := &b.Machines[i].Blocks[j].Value
				v.Lo += dice.IntN(min(2, v.Hi-v.Lo+1))
				v.Hi -= dice.IntN(min(3, v.Hi-v.Lo+1))
			}
		}
		before, behind := tell(t, x.Book, l), tell(t, b, l)
		if !isNoWider(before, errs) || !isNoWider(errs, behind) {
			t.Fatalf("%v, %v: %v, then %v, with %v %v", x.Book, l, before, errs, b, behind)
		}
		count.add(before, errs)
		count.add(errs, behind)
	}
	count.isMissing(t, 100, "narrower", "fail", "off")
}

// P6.9
func TestFinerConvert(t *testing.T) {
	count := 0
	for dice, x := range makings(1000, 40) {
		for i, y := range x.Tables {
			for range 30 {
				low, high := dice.IntN(42), dice.IntN(42)
				wider := to(min(low, high), max(low, high))
				narrower := to(between(dice, wider.Lo, wider.Hi), wider.Hi)
				narrower.Hi = between(dice, narrower.Lo, wider.Hi)
				r, e := hard.Convert(x.Book, i, wider)
				s, f := hard.Convert(x.Book, i, narrower)
				if e == api.OK && (f != api.OK || !within(s, r)) {
					t.Fatalf("Convert by %v of %v: %v, %v; of %v: %v, %v", y, wider, r, e, narrower, s, f)
				}
				if e == api.OK && s != r {
					count++
				}
			}
		}
	}
	if count < 1000 {
		t.Errorf("%d narrower", count)
	}
}

// turned returns the table turned round: a break between two rows is between the same ones then.
func turned(t hard.Table) hard.Table {
	r := hard.Table{From: t.To, To: t.From, Err: t.Err}
	for _, w := range t.Rows {
		r.Rows = append(r.Rows, hard.Row{X: w.Y, Y: w.X})
	}
	r.Breaks = slices.Clone(t.Breaks)
	if last := len(r.Rows) - 1; r.Rows[0].X > r.Rows[last].X {
		slices.Reverse(r.Rows)
		slices.Reverse(r.Breaks)
		for i, row := range r.Breaks {
			r.Breaks[i] = last - 1 - row
		}
	}
	return r
}

// P6.10
func TestBack(t *testing.T) {
	whole := 0
	for _, x := range makings(2000, 25) {
		for _, y := range x.Tables {
			y.Err = 0
			b := book(x.Scales, tables(y, turned(y)))
			if e := hard.CheckBook(b); e != api.OK {
				t.Fatalf("CheckBook of %v: %v", b, e)
			}
			for v := range 50 {
				r, e := hard.Convert(b, 0, to(v, v))
				if e != api.OK || r.Lo != r.Hi {
					continue
				}
				if back, e := hard.Convert(b, 1, r); back != to(v, v) || e != api.OK {
					t.Fatalf("Convert by %v of %d: %v, back %v, %v", y, v, r, back, e)
				}
				whole++
			}
		}
	}
	if whole < 10000 {
		t.Errorf("%d whole numbers", whole)
	}
}

// P6.11
func TestOnlyWhereTablesAllow(t *testing.T) {
	count := 0
	for dice, x := range makings(2000, 40) {
		l := changed(dice, x)
		y := tell(t, x.Book, l)
		for scale := range x.Scales {
			leads := slices.ContainsFunc(x.Tables, func(t hard.Table) bool { return t.To == scale })
			isRead := slices.ContainsFunc(l, func(r hard.Reading) bool { return x.Machines[r.Machine].Scale == scale })
			if leads || isRead || y.e != api.OK {
				continue
			}
			if y.spans[scale] != all() {
				t.Fatalf("%v, %v: %v", x.Book, l, y.spans)
			}
			count++
		}
	}
	if count < 200 {
		t.Errorf("%d scales of which nothing is known", count)
	}
}

// P6.11
func TestNotIntoBreaks(t *testing.T) {
	count := 0
	for dice, x := range makings(1500, 40) {
		for i, y := range x.Tables {
			outside := []int{0, y.Rows[0].X - 1, y.Rows[len(y.Rows)-1].X + 1, api.MaxHardValue}
			for _, row := range y.Breaks {
				left, right := y.Rows[row].X, y.Rows[row+1].X
				if r, e := hard.Convert(x.Book, i, to(left, right)); r != to(0, 0) || e != api.ErrLink {
					t.Fatalf("Convert by %v of %d to %d: %v, %v", y, left, right, r, e)
				}
				for v := left + 1; v < right; v++ {
					outside = append(outside, v)
				}
			}
			for _, v := range outside {
				r := to(max(0, v-dice.IntN(4)), min(api.MaxHardValue, v+dice.IntN(4)))
				if r, e := hard.Convert(x.Book, i, r); r != to(0, 0) || e != api.ErrLink {
					t.Fatalf("Convert by %v of a range with %d: %v, %v", y, v, r, e)
				}
				count++
			}
		}
	}
	if count < 10000 {
		t.Errorf("%d ranges", count)
	}
}

// P6.12, P5
func TestFewestReadings(t *testing.T) {
	count := map[int]int{}
	for dice, x := range makings(2500, 40) {
		l := changed(dice, x)
		doubtful, e := hard.Doubtful(x.Book, l)
		count[len(doubtful)]++
		if !slices.IsSorted(doubtful) || e != api.OK {
			t.Fatalf("Doubtful of %v, %v: %v, %v", x.Book, l, doubtful, e)
		}
		if _, e := hard.Spans(x.Book, without(l, doubtful)); e != api.OK {
			t.Fatalf("Spans of %v, %v without %v: %v", x.Book, l, doubtful, e)
		}
		for _, list := range lists(len(l)) {
			if _, e := hard.Spans(x.Book, without(l, list)); e == api.OK && len(list) < len(doubtful) {
				t.Fatalf("Doubtful of %v, %v: %v, not %v", x.Book, l, doubtful, list)
			}
		}
	}
	for many := range 4 {
		if count[many] < 20 {
			t.Errorf("%v", count)
		}
	}
}

// P1
func TestAnyArguments(t *testing.T) {
	dice := rand.New(rand.NewPCG(1, 1))
	wild := func() int {
		return []int{math.MinInt, math.MaxInt, -1, 0, 1, 2, 3, 4, 5, 8, 9, 1000, 1001, 100000, 100001}[dice.IntN(15)]
	}
	rarely := func(n int) int {
		if dice.IntN(60) == 0 {
			return wild()
		}
		return n
	}
	count := map[api.Errno]int{}
	for range 20000 {
		x := making(dice, 30)
		for i := range x.Tables {
			y := &x.Tables[i]
			y.From, y.To, y.Err = rarely(y.From), rarely(y.To), rarely(y.Err)
			w := &y.Rows[dice.IntN(len(y.Rows))]
			w.X, w.Y = rarely(w.X), rarely(w.Y)
			if dice.IntN(60) == 0 {
				y.Breaks = append(y.Breaks, wild())
			}
			y.Rows = y.Rows[:min(len(y.Rows), rarely(8)&15)]
		}
		for i := range x.Machines {
			m := &x.Machines[i]
			m.Scale = rarely(m.Scale)
			for j := range m.Blocks {
				y := &m.Blocks[j]
				y.Value.Lo, y.Value.Hi, y.Read = rarely(y.Value.Lo), rarely(y.Value.Hi), rarely(y.Read)
			}
		}
		for i := range x.readings {
			x.readings[i] = hard.Reading{Machine: rarely(x.readings[i].Machine), Read: rarely(x.readings[i].Read)}
		}
		x.Scales = rarely(x.Scales)
		for i := range x.values {
			x.values[i] = rarely(x.values[i])
		}
		count[hard.CheckBook(x.Book)]++
		hard.Bias(x.Book, rarely(0))
		hard.Off(x.Book)
		hard.Convert(x.Book, rarely(0), to(rarely(10), rarely(20)))
		hard.Spans(x.Book, x.readings)
		hard.Doubtful(x.Book, x.readings)
		hard.ProveFit(x.Book, x.readings, x.values)
	}
	if count[api.OK] < 2000 || count[api.ErrArg] < 2000 {
		t.Errorf("%v", count)
	}
}

// R3
func TestNothing(t *testing.T) {
	table := example().Tables[1]
	without, with := book(3, nil, machine(0)), book(3, []hard.Table{}, hard.Machine{Blocks: []hard.Block{}})
	for range 2 {
		one, two := tell(t, without, nil), tell(t, with, []hard.Reading{})
		if !reflect.DeepEqual(one, two) || one.e != api.OK || len(one.spans) != 3 {
			t.Errorf("%v, %v", one, two)
		}
		for _, b := range []hard.Book{without, with} {
			if r, e := hard.Bias(b, 0); r != to(-100000, 100000) || e != api.OK {
				t.Errorf("Bias of %v: %v, %v", b, r, e)
			}
			if !hard.ProveFit(b, []hard.Reading{}, []int{5, 6, 7}) {
				t.Errorf("ProveFit of %v", b)
			}
		}
		without.Tables, with.Tables = tables(table), tables(broken(table, []int{}...))
	}
	if e := hard.CheckBook(hard.Book{}); e != api.ErrArg {
		t.Errorf("CheckBook of nothing: %v", e)
	}
}
