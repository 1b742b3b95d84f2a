package grain_test

import (
	"math"
	"math/rand/v2"
	"reflect"
	"slices"
	"testing"

	"tensile/api"
	"tensile/grain"
)

// told is all that is told of an album.
type told struct {
	grades      []grain.Range
	differences []grain.Range // of each picture and each other one
	finest      []int
	doubtful    []int
	e           api.Errno
}

func tell(t *testing.T, a grain.Album) told {
	t.Helper()
	var x told
	x.grades, x.e = grain.Grades(a)
	finest, e := grain.Finest(a)
	x.finest = finest
	if e != x.e && (a.Pictures > 0 || e != api.ErrNone) {
		t.Fatalf("Finest of %v: %v", a, e)
	}
	for first := range a.Pictures {
		for second := range a.Pictures {
			r, e := grain.Between(a, first, second)
			if e != x.e {
				t.Fatalf("Between of %v: %v", a, e)
			}
			x.differences = append(x.differences, r)
		}
	}
	doubtful, e := grain.Doubtful(a)
	x.doubtful = doubtful
	if e != api.OK || (len(doubtful) == 0) != (x.e == api.OK) {
		t.Fatalf("Doubtful of %v: %v, %v", a, doubtful, e)
	}
	return x
}

func (x told) isAs(y told) bool {
	return x.e == y.e && slices.Equal(x.grades, y.grades) && slices.Equal(x.differences, y.differences) && slices.Equal(x.finest, y.finest)
}

// isNoWider asks whether no range has become wider and no more pictures may be the finest, or the album is not possible any more.
func isNoWider(before, behind told) bool {
	if before.e == api.ErrFail || behind.e == api.ErrFail {
		return behind.e == api.ErrFail
	}
	for i, r := range behind.grades {
		if !within(r, before.grades[i]) {
			return false
		}
	}
	for i, r := range behind.differences {
		if !within(r, before.differences[i]) {
			return false
		}
	}
	for _, picture := range behind.finest {
		if !slices.Contains(before.finest, picture) {
			return false
		}
	}
	return true
}

// P7.6, P2
func TestWhateverIsTrue(t *testing.T) {
	k := counts{}
	for dice, x := range makings(3000, 8) {
		y := tell(t, x.Album)
		for first, grade := range x.grades {
			if !has(y.grades[first], grade) {
				t.Fatalf("%v: %v, but %d is %d", x.Album, y.grades, first, grade)
			}
			for second, other := range x.grades {
				if r := y.differences[first*x.Pictures+second]; !has(r, grade-other) {
					t.Fatalf("%v: %d and %d are %d apart, but not in %v", x.Album, first, second, grade-other, r)
				}
			}
			if grade == slices.Max(x.grades) && !slices.Contains(y.finest, first) {
				t.Fatalf("%v: %v, but not %d", x.Album, y.finest, first)
			}
			chain := anyChain(dice, x.Album, first, 20)
			r, e := grain.Tells(x.Album, first, chain)
			if e == api.OK && !has(r, grade) {
				t.Fatalf("%v: %v by %v, but %d is %d", x.Album, r, chain, first, grade)
			}
			if e == api.OK && r != all() {
				k["told"]++
			}
			if y.grades[first] != all() {
				k["known"]++
			}
		}
	}
	k.areLess(t, 4000, "told", "known")
}

// P7.7, P2, P3
func TestEnds(t *testing.T) {
	longest := 0
	for dice, x := range makings(5000, 8) {
		a := x.Album
		if dice.IntN(2) == 0 {
			a = changed(dice, a)
		}
		ranges, _ := grain.Grades(a)
		for picture, r := range ranges {
			for _, high := range []bool{false, true} {
				g, e := grain.Shows(a, picture, high)
				if e != api.OK || !fitByHand(a, g) || g[picture] != endOf(r, high) {
					t.Fatalf("Shows of %v, %d, %v: %v, %v", a, picture, high, g, e)
				}
				chain, e := grain.Chain(a, picture, high)
				told, f := grain.Tells(a, picture, chain)
				if e != api.OK || f != api.OK || len(chain) > api.MaxGrainPictures || endOf(told, high) != endOf(r, high) {
					t.Fatalf("Chain of %v, %d, %v: %v, %v tells %v, %v", a, picture, high, chain, e, told, f)
				}
				longest = max(longest, len(chain))
			}
		}
	}
	if longest < 5 {
		t.Errorf("%d comparisons in a chain", longest)
	}
}

// P7.8
func TestOneMore(t *testing.T) {
	k := counts{}
	for dice, x := range makings(3000, 8) {
		a := changed(dice, x.Album)
		if len(a.Comparisons) == 0 {
			continue
		}
		before, behind := tell(t, without(a, []int{0})), tell(t, a)
		if !isNoWider(before, behind) {
			t.Fatalf("%v: %v, without the first one %v", a, behind, before)
		}
		switch {
		case before.e == api.OK && behind.e == api.ErrFail:
			k["impossible"]++
		case behind.e == api.OK && !slices.Equal(before.grades, behind.grades):
			k["narrower"]++
		}
		if behind.e == api.OK && len(before.finest) > len(behind.finest) {
			k["fewer"]++
		}
	}
	k.areLess(t, 100, "impossible", "narrower", "fewer")
}

// P7.8
func TestSaidAgain(t *testing.T) {
	count := 0
	for dice, x := range makings(2500, 8) {
		if x.Pictures < 2 || len(x.Comparisons) == api.MaxGrainComparisons {
			continue
		}
		pictures := dice.Perm(x.Pictures)
		r, _ := grain.Between(x.Album, pictures[0], pictures[1])
		again := and(x.Album, c(pictures[0], pictures[1], r.Lo, r.Hi))
		before, behind := tell(t, x.Album), tell(t, again)
		if !before.isAs(behind) {
			t.Fatalf("%v: %v, not %v", again, behind, before)
		}
		count++
	}
	if count < 1000 {
		t.Errorf("%d albums", count)
	}
}

// P7.9
func TestThree(t *testing.T) {
	k := counts{}
	for _, x := range makings(2500, 8) {
		d := tell(t, x.Album).differences
		of := func(first, second int) grain.Range { return d[first*x.Pictures+second] }
		for first := range x.Pictures {
			for second := range x.Pictures {
				r, back := of(first, second), of(second, first)
				if r != to(-back.Hi, -back.Lo) {
					t.Fatalf("%v: %v and back %v", x.Album, r, back)
				}
				for third := range x.Pictures {
					next, both := of(second, third), of(first, third)
					if !within(both, to(r.Lo+next.Lo, r.Hi+next.Hi)) {
						t.Fatalf("%v: %v and %v, but both %v", x.Album, r, next, both)
					}
					if both != to(r.Lo+next.Lo, r.Hi+next.Hi) {
						k["narrower"]++
					} else if first != second && second != third {
						k["the same"]++
					}
				}
			}
		}
	}
	k.areLess(t, 2000, "narrower", "the same")
}

func exchanged(x grain.Comparison) grain.Comparison {
	if x.Right == chart {
		return x
	}
	return c(x.Right, x.Left, -x.Most, -x.Least)
}

// P7.10, P6; of the doubtful comparisons as many are named, as which ones depends on the order.
func TestAnyOrder(t *testing.T) {
	for dice, x := range makings(1000, 8) {
		a := changed(dice, x.Album)
		before := tell(t, a)
		for range 3 {
			other := and(a)
			dice.Shuffle(len(other.Comparisons), func(i, j int) {
				other.Comparisons[i], other.Comparisons[j] = other.Comparisons[j], other.Comparisons[i]
			})
			for i, y := range other.Comparisons {
				if dice.IntN(2) == 0 {
					other.Comparisons[i] = exchanged(y)
				}
			}
			if behind := tell(t, other); !before.isAs(behind) || len(before.doubtful) != len(behind.doubtful) {
				t.Fatalf("%v: %v; %v: %v", a, before, other, behind)
			}
			for _, y := range a.Comparisons {
				if len(other.Comparisons) < api.MaxGrainComparisons && dice.IntN(2) == 0 {
					other = and(other, y)
				}
			}
			if behind := tell(t, other); !before.isAs(behind) {
				t.Fatalf("%v: %v; twice %v: %v", a, before, other, behind)
			}
		}
	}
}

// upsideDown returns the album of the grades from MaxGrainGrade down.
func upsideDown(a grain.Album) (grain.Album, bool) {
	turned := album(a.Pictures)
	for _, x := range a.Comparisons {
		from, up := -x.Most, -x.Least
		if x.Right == chart {
			from, up = 100+from, 100+up
		}
		turned.Comparisons = append(turned.Comparisons, c(x.Left, x.Right, from, up))
	}
	return turned, grain.CheckAlbum(turned) == api.OK
}

// P7.11
func TestUpsideDown(t *testing.T) {
	k := counts{}
	for dice, x := range makings(4000, 8) {
		a := changed(dice, x.Album)
		turned, is := upsideDown(a)
		if !is {
			continue // A comparison with Chart that tells a grade below 0 would tell one above 100.
		}
		g, e := grain.Grades(a)
		h, f := grain.Grades(turned)
		if e != f || len(g) != len(h) {
			t.Fatalf("%v: %v; %v: %v", a, e, turned, f)
		}
		for picture, r := range g {
			if h[picture] != to(100-r.Hi, 100-r.Lo) {
				t.Fatalf("%v: %v; %v: %v", a, g, turned, h)
			}
		}
		k[e.Error()]++
	}
	k.areLess(t, 400, api.OK.Error(), api.ErrFail.Error())
}

// P7.12, P5
func TestFewestComparisons(t *testing.T) {
	k := map[int]int{}
	for dice, x := range makings(1500, 8) {
		a := changed(dice, x.Album)
		doubtful, e := grain.Doubtful(a)
		k[len(doubtful)]++
		if !slices.IsSorted(doubtful) || e != api.OK {
			t.Fatalf("Doubtful of %v: %v, %v", a, doubtful, e)
		}
		if _, e := grain.Grades(without(a, doubtful)); e != api.OK {
			t.Fatalf("%v without %v: %v", a, doubtful, e)
		}
		for _, list := range lists(len(a.Comparisons)) {
			if len(list) >= len(doubtful) {
				break
			}
			if _, e := grain.Grades(without(a, list)); e == api.OK {
				t.Fatalf("Doubtful of %v: %v, not %v", a, doubtful, list)
			}
		}
	}
	for many := range 4 {
		if k[many] < 20 {
			t.Errorf("%v", k)
		}
	}
}

// P1
func TestAnyArguments(t *testing.T) {
	dice := rand.New(rand.NewPCG(1, 7))
	wild := func() int {
		return []int{math.MinInt, math.MaxInt, -2, -1, 0, 1, 2, 7, 8, 9, 12, 13, 20, 21, 100, 101, -100, -101}[dice.IntN(18)]
	}
	rarely := func(n int) int {
		if dice.IntN(60) == 0 {
			return wild()
		}
		return n
	}
	count := map[api.Errno]int{}
	for range 20000 {
		x := making(dice, dice.IntN(9))
		a := changed(dice, x.Album)
		for i, y := range a.Comparisons {
			a.Comparisons[i] = c(rarely(y.Left), rarely(y.Right), rarely(y.Least), rarely(y.Most))
		}
		chain := anyChain(dice, x.Album, 0, rarely(20)&31)
		for i := range chain {
			chain[i] = rarely(chain[i])
		}
		for i := range x.grades {
			x.grades[i] = rarely(x.grades[i])
		}
		a.Pictures = rarely(a.Pictures)
		picture, other := rarely(0), rarely(1)
		count[grain.CheckAlbum(a)]++
		grain.Grades(a)
		grain.Between(a, picture, other)
		grain.Shows(a, picture, true)
		grain.Finest(a)
		grain.Chain(a, picture, false)
		grain.Tells(a, picture, chain)
		grain.Doubtful(a)
		grain.ProveFit(a, x.grades)
	}
	if count[api.OK] < 2000 || count[api.ErrArg] < 2000 {
		t.Errorf("%v", count)
	}
}

// R3
func TestNothing(t *testing.T) {
	for pictures := range 3 {
		with, without := album(pictures, []grain.Comparison{}...), grain.Album{Pictures: pictures}
		one, two := tell(t, with), tell(t, without)
		if !reflect.DeepEqual(one, two) || one.e != api.OK || len(one.grades) != pictures {
			t.Errorf("%v, %v", one, two)
		}
		if !grain.ProveFit(with, make([]int, pictures)) || !grain.ProveFit(without, slices.Repeat([]int{100}, pictures)) {
			t.Errorf("ProveFit of %d pictures", pictures)
		}
	}
	for _, chain := range [][]int{nil, {}} {
		if r, e := grain.Tells(example(), 0, chain); r != all() || e != api.OK {
			t.Errorf("Tells by no comparisons: %v, %v", r, e)
		}
	}
	if e := grain.CheckAlbum(grain.Album{}); e != api.OK {
		t.Errorf("CheckAlbum of nothing: %v", e)
	}
}
