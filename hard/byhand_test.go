package hard_test

import (
	"cmp"
	"iter"
	"math/big"
	"math/rand/v2"
	"slices"
	"testing"

	"tensile/api"
	"tensile/hard"
)

// The functions of this file say word for word what the chapter's definitions do.

func has(r hard.Range, n int) bool { return r.Lo <= n && n <= r.Hi }

func within(r, other hard.Range) bool { return has(other, r.Lo) && has(other, r.Hi) }

func both(r, other hard.Range) hard.Range { return to(max(r.Lo, other.Lo), min(r.Hi, other.Hi)) }

// hasHalf reports whether the table has a number of halves.
func hasHalf(t hard.Table, halves int) bool {
	for i, w := range t.Rows {
		if halves == 2*w.X {
			return true
		}
		if i+1 < len(t.Rows) && !slices.Contains(t.Breaks, i) && 2*w.X < halves && halves < 2*t.Rows[i+1].X {
			return true
		}
	}
	return false
}

// hasAll reports whether the table has each number and each fraction of a range. Between two whole numbers it has all or none.
func hasAll(t hard.Table, r hard.Range) bool {
	for halves := 2 * r.Lo; halves <= 2*r.Hi; halves++ {
		if !hasHalf(t, halves) {
			return false
		}
	}
	return true
}

// madeOf returns what the table makes of a value that it has.
func madeOf(t hard.Table, v int) *big.Rat {
	for i, w := range t.Rows {
		if v == w.X {
			return big.NewRat(int64(w.Y), 1)
		}
		if i+1 < len(t.Rows) && v < t.Rows[i+1].X {
			next := t.Rows[i+1]
			part := big.NewRat(int64(v-w.X), int64(next.X-w.X))
			part.Mul(part, big.NewRat(int64(next.Y-w.Y), 1))
			return part.Add(part, big.NewRat(int64(w.Y), 1))
		}
	}
	return nil
}

func down(x *big.Rat) int { return int(new(big.Int).Div(x.Num(), x.Denom()).Int64()) }

func up(x *big.Rat) int { return -down(new(big.Rat).Neg(x)) }

func madeOfRange(t hard.Table, r hard.Range) hard.Range {
	lesser, greater := madeOf(t, r.Lo), madeOf(t, r.Hi)
	if lesser.Cmp(greater) > 0 {
		lesser, greater = greater, lesser
	}
	return to(down(lesser)-t.Err, up(greater)+t.Err)
}

func biasOf(m hard.Machine) hard.Range {
	if len(m.Blocks) == 0 {
		return to(-api.MaxHardValue, api.MaxHardValue)
	}
	var lows, highs []int
	for _, x := range m.Blocks {
		lows, highs = append(lows, x.Read-x.Value.Hi), append(highs, x.Read-x.Value.Lo)
	}
	return to(slices.Max(lows), slices.Min(highs))
}

func isOff(m hard.Machine) bool { return biasOf(m).Lo > biasOf(m).Hi }

func fitByHand(b hard.Book, l []hard.Reading, values []int) bool {
	for _, x := range l {
		m := b.Machines[x.Machine]
		if !has(biasOf(m), x.Read-values[m.Scale]) {
			return false
		}
	}
	for _, t := range b.Tables {
		v, other := values[t.From], values[t.To]
		if hasHalf(t, 2*v) && (other < down(madeOf(t, v))-t.Err || other > up(madeOf(t, v))+t.Err) {
			return false
		}
	}
	return true
}

func isEmpty(r hard.Range) bool { return r.Lo > r.Hi }

// spansByHand asks the tables in any order, each time round in another one.
func spansByHand(dice *rand.Rand, b hard.Book, l []hard.Reading) ([]hard.Range, bool) {
	spans := slices.Repeat([]hard.Range{all()}, b.Scales)
	for _, x := range l {
		m := b.Machines[x.Machine]
		spans[m.Scale] = both(spans[m.Scale], to(x.Read-biasOf(m).Hi, x.Read-biasOf(m).Lo))
	}
	for {
		before := slices.Clone(spans)
		for _, i := range dice.Perm(len(b.Tables)) {
			if slices.ContainsFunc(spans, isEmpty) {
				break
			}
			if t := b.Tables[i]; hasAll(t, spans[t.From]) {
				spans[t.To] = both(spans[t.To], madeOfRange(t, spans[t.From]))
			}
		}
		if slices.ContainsFunc(spans, isEmpty) {
			return nil, false
		}
		if slices.Equal(before, spans) {
			return spans, true
		}
	}
}

// without returns the readings that are not in the list.
func without(l []hard.Reading, list []int) []hard.Reading {
	var rest []hard.Reading
	for i, x := range l {
		if !slices.Contains(list, i) {
			rest = append(rest, x)
		}
	}
	return rest
}

// lists returns all rising lists of numbers below one, the shortest ones first, and the least ones of those.
func lists(below int) [][]int {
	all := [][]int{nil}
	for n := range below {
		for _, list := range all {
			all = append(all, append(slices.Clone(list), n))
		}
	}
	slices.SortFunc(all, func(a, b []int) int { return cmp.Or(cmp.Compare(len(a), len(b)), slices.Compare(a, b)) })
	return all
}

func doubtfulByHand(dice *rand.Rand, b hard.Book, l []hard.Reading) []int {
	for _, list := range lists(len(l)) {
		if _, is := spansByHand(dice, b, without(l, list)); is {
			return list
		}
	}
	return nil
}

func between(dice *rand.Rand, low, high int) int { return low + dice.IntN(high-low+1) }

// some returns so many different numbers from 1 up to the highest one, rising.
func some(dice *rand.Rand, many, highest int) []int {
	l := dice.Perm(highest)[:many]
	for i := range l {
		l[i]++
	}
	slices.Sort(l)
	return l
}

func anyTable(dice *rand.Rand, from, into, highest int) hard.Table {
	t := hard.Table{From: from, To: into, Err: dice.IntN(4)}
	many := between(dice, 2, api.MaxHardRows)
	x, y := some(dice, many, highest), some(dice, many, highest)
	if dice.IntN(2) == 0 {
		slices.Reverse(y)
	}
	rarity := between(dice, 1, 9)
	for i := range many {
		t.Rows = append(t.Rows, hard.Row{X: x[i], Y: y[i]})
		if i+1 < many && dice.IntN(rarity) == 0 && dice.IntN(2) == 0 {
			t.Breaks = append(t.Breaks, i)
		}
	}
	return t
}

// pushed returns the table with all Y so much greater that it makes the other value of the one; with a greater Err if no Y would be above 0.
func pushed(t hard.Table, v, other int) hard.Table {
	if !hasHalf(t, 2*v) {
		return t
	}
	by := other - down(madeOf(t, v))
	lowest := min(t.Rows[0].Y, t.Rows[len(t.Rows)-1].Y)
	push := max(by, 1-lowest)
	for i := range t.Rows {
		t.Rows[i].Y += push
	}
	t.Err += push - by
	return t
}

// anyMachine returns one that reads by so much too much.
func anyMachine(dice *rand.Rand, scale, by, highest int) hard.Machine {
	m := hard.Machine{Scale: scale}
	for range dice.IntN(api.MaxHardBlocks + 1) {
		v := between(dice, 20, highest)
		m.Blocks = append(m.Blocks, block(v-dice.IntN(6), v+dice.IntN(6), v+by))
	}
	return m
}

type made struct {
	hard.Book
	values   []int // those that are true
	readings []hard.Reading
}

// making returns a book with readings that values fit.
func making(dice *rand.Rand, highest int) made {
	var x made
	x.Scales = between(dice, 1, api.MaxHardScales)
	for range x.Scales {
		x.values = append(x.values, between(dice, 20, highest))
	}
	for range dice.IntN(api.MaxHardTables + 1) {
		from, into := dice.IntN(x.Scales), dice.IntN(x.Scales)
		if from != into {
			x.Tables = append(x.Tables, pushed(anyTable(dice, from, into, highest), x.values[from], x.values[into]))
		}
	}
	for range dice.IntN(api.MaxHardMachines + 1) {
		scale, by := dice.IntN(x.Scales), between(dice, -9, 9)
		m := anyMachine(dice, scale, by, highest)
		x.Machines = append(x.Machines, m)
		for bias := biasOf(m); dice.IntN(3) > 0 && len(x.readings) < api.MaxHardReadings; {
			y := x.values[scale] + between(dice, max(bias.Lo, -19), min(bias.Hi, 19))
			x.readings = append(x.readings, hard.Reading{Machine: len(x.Machines) - 1, Read: y})
		}
	}
	dice.Shuffle(len(x.readings), func(i, j int) { x.readings[i], x.readings[j] = x.readings[j], x.readings[i] })
	return x
}

// makings brings books with readings that values fit, the same ones each time.
func makings(number, highest int) iter.Seq2[*rand.Rand, made] {
	return func(bring func(*rand.Rand, made) bool) {
		dice := rand.New(rand.NewPCG(6, uint64(highest)))
		for range number {
			if !bring(dice, making(dice, highest)) {
				return
			}
		}
	}
}

// changed returns the readings with some that read other values.
func changed(dice *rand.Rand, x made) []hard.Reading {
	l := slices.Clone(x.readings)
	rarity := between(dice, 1, 4)
	for i := range l {
		if dice.IntN(rarity) == 0 {
			l[i].Read = max(0, l[i].Read+between(dice, -20, 20))
		}
	}
	return l
}

// P6.1
func TestMachinesByHand(t *testing.T) {
	off := 0
	for dice, x := range makings(2000, 40) {
		for i := range x.Machines {
			for j := range x.Machines[i].Blocks {
				if dice.IntN(4) == 0 {
					x.Machines[i].Blocks[j].Read += dice.IntN(9)
				}
			}
		}
		var want []int
		for i, m := range x.Machines {
			r, e := biasOf(m), api.OK
			if isOff(m) {
				want, r, e = append(want, i), to(0, 0), api.ErrSpoil
			}
			if bias, f := hard.Bias(x.Book, i); bias != r || f != e {
				t.Fatalf("Bias of %d of %v: %v, %v", i, x.Book, bias, f)
			}
		}
		if l, e := hard.Off(x.Book); !slices.Equal(l, want) || e != api.OK {
			t.Fatalf("Off of %v: %v, %v, not %v", x.Book, l, e, want)
		}
		off += len(want)
	}
	if off < 500 {
		t.Errorf("%d are off", off)
	}
}

// P6.2
func TestConvertByHand(t *testing.T) {
	count := map[api.Errno]int{}
	for dice, x := range makings(1000, 40) {
		for i, y := range x.Tables {
			for range 30 {
				low := dice.IntN(42)
				r := to(low, min(42, low+dice.IntN(12)))
				want, e := to(0, 0), api.ErrLink
				if hasAll(y, r) {
					want, e = madeOfRange(y, r), api.OK
				}
				if got, f := hard.Convert(x.Book, i, r); got != want || f != e {
					t.Fatalf("Convert by %v of %v: %v, %v, not %v, %v", y, r, got, f, want, e)
				}
				count[e]++
			}
		}
	}
	if count[api.OK] < 5000 || count[api.ErrLink] < 5000 {
		t.Errorf("%v", count)
	}
}

// isByHand holds the spans and the doubtful readings against those by hand, and returns how many of these there are.
func isByHand(t *testing.T, dice *rand.Rand, b hard.Book, l []hard.Reading) int {
	t.Helper()
	want, e := spansByHand(dice, b, l)
	list := doubtfulByHand(dice, b, l)
	s, f := hard.Spans(b, l)
	if !slices.Equal(s, want) || (f == api.OK) != e || !e && f != api.ErrFail {
		t.Fatalf("Spans of %v, %v: %v, %v, not %v", b, l, s, f, want)
	}
	if d, e := hard.Doubtful(b, l); !slices.Equal(d, list) || e != api.OK {
		t.Fatalf("Doubtful of %v, %v: %v, %v, not %v", b, l, d, e, list)
	}
	return len(list)
}

// P6.3, P6.4
func TestSpansByHand(t *testing.T) {
	count := map[int]int{}
	for _, highest := range []int{25, 60} {
		for dice, x := range makings(1500, highest) {
			count[isByHand(t, dice, x.Book, x.readings)]++
			count[isByHand(t, dice, x.Book, changed(dice, x))]++
		}
	}
	for many := range 4 {
		if count[many] < 50 {
			t.Errorf("%v", count)
		}
	}
}

// P6.5
func TestFitByHand(t *testing.T) {
	count := map[bool]int{}
	for dice, x := range makings(3000, 40) {
		for range 20 {
			values := slices.Clone(x.values)
			for i := range values {
				if dice.IntN(2) == 0 {
					values[i] += between(dice, -8, 8)
				}
			}
			want := fitByHand(x.Book, x.readings, values)
			if is := hard.ProveFit(x.Book, x.readings, values); is != want {
				t.Fatalf("ProveFit of %v, %v, %v: %v", x.Book, x.readings, values, is)
			}
			count[want]++
		}
	}
	if count[true] < 5000 || count[false] < 5000 {
		t.Errorf("%v", count)
	}
}
