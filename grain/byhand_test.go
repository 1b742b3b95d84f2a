package grain_test

import (
	"cmp"
	"iter"
	"math/rand/v2"
	"slices"
	"testing"

	"tensile/api"
	"tensile/grain"
)

// The functions of this file say word for word what the chapter's definitions do.

func has(r grain.Range, n int) bool { return r.Lo <= n && n <= r.Hi }

func within(r, other grain.Range) bool { return has(other, r.Lo) && has(other, r.Hi) }

func cut(r, by grain.Range) grain.Range { return to(max(r.Lo, by.Lo), min(r.Hi, by.Hi)) }

func endOf(r grain.Range, high bool) int {
	if high {
		return r.Hi
	}
	return r.Lo
}

func fitByHand(a grain.Album, grades []int) bool {
	for _, x := range a.Comparisons {
		right := 0
		if x.Right != chart {
			right = grades[x.Right]
		}
		if d := grades[x.Left] - right; d < x.Least || d > x.Most {
			return false
		}
	}
	return len(grades) == a.Pictures && !slices.ContainsFunc(grades, func(n int) bool { return n < 0 || n > api.MaxGrainGrade })
}

// lowsAndHighs returns the least and the greatest grades that fit, if some do. They are found by cutting what grades can be by one comparison after the other, until nothing more is cut.
func lowsAndHighs(t *testing.T, a grain.Album) ([]int, []int, bool) {
	t.Helper()
	r := slices.Repeat([]grain.Range{all()}, a.Pictures)
	for {
		before := slices.Clone(r)
		for _, x := range a.Comparisons {
			right := to(0, 0)
			if x.Right != chart {
				r[x.Right] = cut(r[x.Right], to(r[x.Left].Lo-x.Most, r[x.Left].Hi-x.Least))
				right = r[x.Right]
			}
			r[x.Left] = cut(r[x.Left], to(right.Lo+x.Least, right.Hi+x.Most))
		}
		if slices.ContainsFunc(r, func(x grain.Range) bool { return x.Lo > x.Hi }) {
			return nil, nil, false
		}
		if slices.Equal(before, r) {
			break
		}
	}
	var lows, highs []int
	for _, x := range r {
		lows, highs = append(lows, x.Lo), append(highs, x.Hi)
	}
	if !fitByHand(a, lows) || !fitByHand(a, highs) {
		t.Fatalf("%v: %v or %v do not fit", a, lows, highs)
	}
	return lows, highs, true
}

func isPossible(t *testing.T, a grain.Album) bool {
	t.Helper()
	_, _, is := lowsAndHighs(t, a)
	return is
}

// differenceByHand looks for the least and the greatest number by trying.
func differenceByHand(t *testing.T, a grain.Album, first, second int) grain.Range {
	t.Helper()
	if first == second {
		return to(0, 0)
	}
	r := to(-100, 100)
	for !isPossible(t, and(a, c(first, second, r.Lo, r.Lo))) {
		r.Lo++
	}
	for !isPossible(t, and(a, c(first, second, r.Hi, r.Hi))) {
		r.Hi--
	}
	return r
}

func finestByHand(t *testing.T, a grain.Album) []int {
	t.Helper()
	var all []int
	for picture := range a.Pictures {
		finest := a
		for other := range a.Pictures {
			if other != picture {
				finest = and(finest, c(picture, other, 0, 100))
			}
		}
		if isPossible(t, finest) {
			all = append(all, picture)
		}
	}
	return all
}

// tellsByHand goes along the chain from its first comparison, as the pictures that it comes to are known from its end.
func tellsByHand(a grain.Album, picture int, chain []int) (grain.Range, bool) {
	pictures := []int{picture}
	for _, number := range slices.Backward(chain) {
		if number < 0 || number >= len(a.Comparisons) || picture == chart {
			return to(0, 0), false
		}
		switch x := a.Comparisons[number]; picture {
		case x.Left:
			picture = x.Right
		case x.Right:
			picture = x.Left
		default:
			return to(0, 0), false
		}
		pictures = append(pictures, picture)
	}
	told := all()
	for i, number := range chain {
		x := a.Comparisons[number]
		switch {
		case x.Right == chart:
			told = to(x.Least, x.Most)
		case x.Left == pictures[len(chain)-1-i]:
			told = to(told.Lo+x.Least, told.Hi+x.Most)
		default:
			told = to(told.Lo-x.Most, told.Hi-x.Least)
		}
		told = to(max(told.Lo, 0), min(told.Hi, 100))
	}
	return told, true
}

// without returns the album without the comparisons in the list.
func without(a grain.Album, list []int) grain.Album {
	rest := album(a.Pictures)
	for i, x := range a.Comparisons {
		if !slices.Contains(list, i) {
			rest.Comparisons = append(rest.Comparisons, x)
		}
	}
	return rest
}

// lists returns all rising lists of numbers below one, the shortest ones first, and the least ones of those.
func lists(below int) [][]int {
	all := [][]int{nil}
	for n := range below {
		for _, list := range all {
			all = append(all, append(slices.Clone(list), n))
		}
	}
	slices.SortFunc(all, func(a, b []int) int { return cmp.Or(cmp.Compare(len(a), len(b)), slices.Compare(a, b)) })
	return all
}

func doubtfulByHand(t *testing.T, a grain.Album) []int {
	t.Helper()
	for _, list := range lists(len(a.Comparisons)) {
		if isPossible(t, without(a, list)) {
			return list
		}
	}
	return nil
}

func between(dice *rand.Rand, low, high int) int { return low + dice.IntN(high-low+1) }

// around returns the difference with some more on both sides, as far as a comparison may have it.
func around(dice *rand.Rand, difference, slack int) grain.Range {
	return cut(to(difference-dice.IntN(slack+1), difference+dice.IntN(slack+1)), to(-100, 100))
}

// anyComparison says what is so by the grades.
func anyComparison(dice *rand.Rand, grades []int, slack int) grain.Comparison {
	left, right := dice.IntN(len(grades)), dice.IntN(len(grades))
	if left == right || dice.IntN(6) == 0 {
		r := around(dice, grades[left], slack)
		return c(left, chart, r.Lo, r.Hi)
	}
	r := around(dice, grades[left]-grades[right], slack)
	return c(left, right, r.Lo, r.Hi)
}

type made struct {
	grain.Album
	grades []int // those that are true
}

// making returns an album that grades fit. Some of these are near the ends of all grades.
func making(dice *rand.Rand, pictures int) made {
	x := made{Album: album(pictures)}
	for range pictures {
		x.grades = append(x.grades, []int{between(dice, 0, 100), between(dice, 40, 60), between(dice, 0, 3), between(dice, 97, 100)}[dice.IntN(4)])
	}
	slack := []int{0, 2, 5, 30, 100}[dice.IntN(5)]
	for range dice.IntN(api.MaxGrainComparisons + 1) {
		if pictures > 0 {
			x.Comparisons = append(x.Comparisons, anyComparison(dice, x.grades, slack))
		}
	}
	return x
}

// makings brings albums that grades fit, of up to so many pictures, the same ones each time.
func makings(number, pictures int) iter.Seq2[*rand.Rand, made] {
	return func(bring func(*rand.Rand, made) bool) {
		dice := rand.New(rand.NewPCG(7, uint64(pictures)))
		for range number {
			if !bring(dice, making(dice, dice.IntN(pictures+1))) {
				return
			}
		}
	}
}

// changed returns the album with some comparisons that say something else.
func changed(dice *rand.Rand, a grain.Album) grain.Album {
	a = and(a)
	rarity := between(dice, 2, 8)
	for i := range a.Comparisons {
		if x := &a.Comparisons[i]; dice.IntN(rarity) == 0 {
			by := between(dice, max(-20, -100-x.Least), min(20, 100-x.Most))
			x.Least, x.Most = x.Least+by, x.Most+by
		}
	}
	return a
}

// counts of what was met with.
type counts map[string]int

func (k counts) areLess(t *testing.T, than int, each ...string) {
	t.Helper()
	for _, x := range each {
		if k[x] < than {
			t.Errorf("%v", k)
		}
	}
}

func isByHand(t *testing.T, a grain.Album, k counts) {
	t.Helper()
	lows, highs, is := lowsAndHighs(t, a)
	if !is {
		hasErrorOfAll(t, "impossible", a, api.ErrFail)
		for picture := range a.Pictures {
			hasError(t, "impossible", a, picture, api.ErrFail)
		}
		k["impossible"]++
		return
	}
	var want []grain.Range
	for picture := range a.Pictures {
		want = append(want, to(lows[picture], highs[picture]))
	}
	if g, e := grain.Grades(a); !slices.Equal(g, want) || e != api.OK {
		t.Fatalf("Grades of %v: %v, %v, not %v", a, g, e, want)
	}
	finest := finestByHand(t, a)
	wanted := api.OK
	if a.Pictures == 0 {
		wanted = api.ErrNone
	}
	if l, e := grain.Finest(a); !slices.Equal(l, finest) || e != wanted {
		t.Fatalf("Finest of %v: %v, %v, not %v", a, l, e, finest)
	}
	if 0 < len(finest) && len(finest) < a.Pictures {
		k["some are the finest"]++
	}
	k["possible"]++
}

// P7.1, P7.3
func TestGradesByHand(t *testing.T) {
	k := counts{}
	for dice, x := range makings(4000, 8) {
		isByHand(t, x.Album, k)
		isByHand(t, changed(dice, x.Album), k)
	}
	k.areLess(t, 1000, "possible", "impossible", "some are the finest")
}

// P7.2
func TestBetweenByHand(t *testing.T) {
	count := 0
	for dice, x := range makings(1200, 8) {
		if x.Pictures == 0 {
			continue
		}
		for range 3 {
			first, second := dice.IntN(x.Pictures), dice.IntN(x.Pictures)
			want := differenceByHand(t, x.Album, first, second)
			if r, e := grain.Between(x.Album, first, second); r != want || e != api.OK {
				t.Fatalf("Between %d and %d of %v: %v, %v, not %v", first, second, x.Album, r, e, want)
			}
			if want != to(0, 0) && want != to(-100, 100) {
				count++
			}
		}
	}
	if count < 1500 {
		t.Errorf("%d differences", count)
	}
}

// allPairs brings all grades of two pictures.
func allPairs(bring func(int, int) bool) {
	for first := range 101 {
		for second := range 101 {
			if !bring(first, second) {
				return
			}
		}
	}
}

// P7.1, P7.2, P7.3, P2: by all grades of two pictures.
func TestTwoPictures(t *testing.T) {
	dice := rand.New(rand.NewPCG(7, 2))
	possible := 0
	for range 300 {
		a := making(dice, 2).Album
		if dice.IntN(2) == 0 {
			a = changed(dice, a)
		}
		wide := to(1000, -1000)
		first, second, less := wide, wide, wide
		finest := [2]bool{}
		add := func(r *grain.Range, n int) { *r = to(min(r.Lo, n), max(r.Hi, n)) }
		for one, other := range allPairs {
			is := fitByHand(a, []int{one, other})
			if grain.ProveFit(a, []int{one, other}) != is {
				t.Fatalf("ProveFit of %v, %d and %d", a, one, other)
			}
			if is {
				add(&first, one)
				add(&second, other)
				add(&less, one-other)
				finest = [2]bool{finest[0] || one >= other, finest[1] || other >= one}
			}
		}
		if first == wide {
			hasErrorOfAll(t, "impossible", a, api.ErrFail)
			continue
		}
		possible++
		g, _ := grain.Grades(a)
		d, _ := grain.Between(a, 0, 1)
		l, _ := grain.Finest(a)
		if !slices.Equal(g, []grain.Range{first, second}) || d != less || slices.Contains(l, 0) != finest[0] || slices.Contains(l, 1) != finest[1] {
			t.Fatalf("%v: %v, %v, %v; not %v, %v, %v, %v", a, g, d, l, first, second, less, finest)
		}
	}
	if possible < 150 || possible > 280 {
		t.Errorf("%d are possible", possible)
	}
}

// anyChain returns a chain for the picture, or nearly.
func anyChain(dice *rand.Rand, a grain.Album, picture, most int) []int {
	var chain []int
	for len(chain) < most && picture != chart && dice.IntN(12) > 0 {
		var next []int
		for i, x := range a.Comparisons {
			if x.Left == picture || x.Right == picture {
				next = append(next, i)
			}
		}
		if len(next) == 0 {
			break
		}
		number := next[dice.IntN(len(next))]
		x := a.Comparisons[number]
		picture = x.Left + x.Right - picture
		chain = append(chain, number)
	}
	slices.Reverse(chain)
	if dice.IntN(3) == 0 && len(chain) > 0 {
		chain[dice.IntN(len(chain))] = between(dice, -1, len(a.Comparisons))
	}
	return chain
}

// P7.4
func TestTellsByHand(t *testing.T) {
	k := counts{}
	for dice, x := range makings(3000, 5) {
		a := changed(dice, x.Album)
		for picture := range a.Pictures {
			for range 5 {
				chain := anyChain(dice, a, picture, between(dice, 1, 20))
				want, is := tellsByHand(a, picture, chain)
				r, e := grain.Tells(a, picture, chain)
				if r != want || (e == api.OK) != is || !is && e != api.ErrLink {
					t.Fatalf("Tells of %v, %d by %v: %v, %v, not %v, %v", a, picture, chain, r, e, want, is)
				}
				switch {
				case !is:
					k["none"]++
				case want.Lo > want.Hi:
					k["nothing"]++
				case len(chain) > 2 && want != all():
					k["something"]++
				}
			}
		}
	}
	k.areLess(t, 500, "none", "nothing", "something")
}

// P7.5
func TestDoubtfulByHand(t *testing.T) {
	k := map[int]int{}
	for dice, x := range makings(2500, 8) {
		a := changed(dice, x.Album)
		want := doubtfulByHand(t, a)
		if d, e := grain.Doubtful(a); !slices.Equal(d, want) || e != api.OK {
			t.Fatalf("Doubtful of %v: %v, %v, not %v", a, d, e, want)
		}
		k[len(want)]++
	}
	for many := range 4 {
		if k[many] < 30 {
			t.Errorf("%v", k)
		}
	}
}

// P7.5
func TestFitByHand(t *testing.T) {
	count := map[bool]int{}
	for dice, x := range makings(3000, 8) {
		if !grain.ProveFit(x.Album, x.grades) {
			t.Fatalf("ProveFit of %v, %v", x.Album, x.grades)
		}
		for range 10 {
			grades := slices.Clone(x.grades)
			for i := range grades {
				if dice.IntN(2) == 0 {
					grades[i] += between(dice, -8, 8)
				}
			}
			want := fitByHand(x.Album, grades)
			if is := grain.ProveFit(x.Album, grades); is != want {
				t.Fatalf("ProveFit of %v, %v: %v", x.Album, grades, is)
			}
			count[want]++
		}
	}
	if count[true] < 5000 || count[false] < 5000 {
		t.Errorf("%v", count)
	}
}
