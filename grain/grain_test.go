package grain_test

import (
	"math"
	"reflect"
	"slices"
	"testing"

	"tensile/api"
	"tensile/grain"
)

const chart = grain.Chart

func to(low, high int) grain.Range { return grain.Range{Lo: low, Hi: high} }

func all() grain.Range { return to(0, 100) }

// c says that the one less the other one is from the least to the most.
func c(left, right, least, most int) grain.Comparison {
	return grain.Comparison{Left: left, Right: right, Least: least, Most: most}
}

func album(pictures int, l ...grain.Comparison) grain.Album {
	return grain.Album{Pictures: pictures, Comparisons: l}
}

// example is that of the chapter.
func example() grain.Album {
	return album(3, c(0, chart, 40, 45), c(1, 0, 3, 5), c(2, 1, -2, 4), c(2, chart, 0, 44))
}

// and returns the album with more comparisons.
func and(a grain.Album, l ...grain.Comparison) grain.Album {
	return album(a.Pictures, slices.Concat(a.Comparisons, l)...)
}

// contrary is the example with a comparison that does not fit the others.
func contrary() grain.Album { return and(example(), c(0, 2, 5, 9)) }

type badAlbum struct {
	name string
	grain.Album
	e api.Errno
}

func badAlbums() []badAlbum {
	var all []badAlbum
	bad := func(name string, a grain.Album, e api.Errno) { all = append(all, badAlbum{name, a, e}) }
	wild := []int{math.MinInt, math.MaxInt, -2, 3, 8, 9}
	bad("13 comparisons", album(3, slices.Repeat(example().Comparisons[:1], 13)...), api.ErrLimit)
	bad("many comparisons", album(3, make([]grain.Comparison, 100000)...), api.ErrLimit)
	bad("13 comparisons, and pictures below 0", album(-1, make([]grain.Comparison, 13)...), api.ErrLimit)
	bad("13 comparisons, and 9 pictures", album(9, make([]grain.Comparison, 13)...), api.ErrLimit)
	bad("13 comparisons of no pictures", album(3, slices.Repeat([]grain.Comparison{c(5, 6, 7, 1)}, 13)...), api.ErrLimit)
	for _, n := range []int{-1, 9, 10, math.MinInt, math.MaxInt} {
		bad("a wrong number of pictures", album(n), api.ErrArg)
		bad("a wrong number of pictures, and a comparison", album(n, c(0, chart, 1, 2)), api.ErrArg)
	}
	for _, n := range append(wild, -1) {
		bad("Left no picture", and(example(), c(n, 1, 0, 1)), api.ErrArg)
		bad("Left no picture, in front", album(3, c(n, chart, 0, 1), c(1, 0, 3, 5)), api.ErrArg)
	}
	for _, n := range wild {
		bad("Right no picture", and(example(), c(1, n, 0, 1)), api.ErrArg)
	}
	bad("a picture with itself", and(example(), c(1, 1, 0, 1)), api.ErrArg)
	bad("the first picture with itself", and(example(), c(0, 0, 0, 0)), api.ErrArg)
	bad("Chart with itself", and(example(), c(chart, chart, 0, 0)), api.ErrArg)
	bad("a picture, and none", album(0, c(0, chart, 0, 0)), api.ErrArg)
	bad("a second picture, and one", album(1, c(0, 1, 0, 0)), api.ErrArg)
	for _, r := range []grain.Range{to(2, 1), to(-1, -2), to(-101, 5), to(5, 101), to(-101, -101), to(101, 101), to(100, -100), to(math.MinInt, math.MaxInt), to(math.MaxInt, math.MinInt), to(math.MinInt, 0), to(0, math.MaxInt)} {
		bad("wrong bounds", and(example(), c(1, 0, r.Lo, r.Hi)), api.ErrArg)
		bad("wrong bounds of Chart", and(example(), c(1, chart, r.Lo, r.Hi)), api.ErrArg)
	}
	return all
}

// P7.1
func TestCheckAlbum(t *testing.T) {
	for _, x := range badAlbums() {
		if e := grain.CheckAlbum(x.Album); e != x.e {
			t.Errorf("%s: %v", x.name, e)
		}
	}
	for _, a := range []grain.Album{
		example(), contrary(), album(0), album(1), album(8), album(1, c(0, chart, -100, 100)), album(1, c(0, chart, -9, -1)),
		album(2, c(0, 1, -100, -100)), album(2, c(1, 0, 100, 100)), album(8, c(7, 0, 5, 5), c(0, 7, 5, 5)),
		album(8, slices.Repeat([]grain.Comparison{c(7, 6, -100, 100)}, 12)...),
	} {
		if e := grain.CheckAlbum(a); e != api.OK {
			t.Errorf("CheckAlbum of %v: %v", a, e)
		}
	}
}

type graded struct {
	name   string
	album  grain.Album
	grades []grain.Range
	finest []int
}

func possibleAlbums() []graded {
	return []graded{
		{"the chapter's example", example(), []grain.Range{to(40, 43), to(43, 46), to(41, 44)}, []int{1, 2}},
		{"DOC's example", album(2, c(0, chart, 40, 45), c(1, 0, 3, 5)), []grain.Range{to(40, 45), to(43, 50)}, []int{1}},
		{"one picture", album(1), []grain.Range{all()}, []int{0}},
		{"8 pictures", album(8), slices.Repeat([]grain.Range{all()}, 8), []int{0, 1, 2, 3, 4, 5, 6, 7}},
		{"the last picture", album(8, c(7, chart, 9, 12)), append(slices.Repeat([]grain.Range{all()}, 7), to(9, 12)), []int{0, 1, 2, 3, 4, 5, 6, 7}},
		{"the last picture, finer than the first one", album(8, c(7, 0, 1, 100)), append(append([]grain.Range{to(0, 99)}, slices.Repeat([]grain.Range{all()}, 6)...), to(1, 100)), []int{1, 2, 3, 4, 5, 6, 7}},
		{"Chart tells nothing", album(1, c(0, chart, -100, 100)), []grain.Range{all()}, []int{0}},
		{"Chart tells less than 0", album(1, c(0, chart, -100, 0)), []grain.Range{to(0, 0)}, []int{0}},
		{"Chart tells 100", album(1, c(0, chart, 100, 100)), []grain.Range{to(100, 100)}, []int{0}},
		{"a comparison tells nothing", album(2, c(0, 1, -100, 100)), []grain.Range{all(), all()}, []int{0, 1}},
		{"from end to end", album(2, c(0, 1, 100, 100)), []grain.Range{to(100, 100), to(0, 0)}, []int{0}},
		{"from end to end, the other way", album(2, c(0, 1, -100, -100)), []grain.Range{to(0, 0), to(100, 100)}, []int{1}},
		{"far apart", album(2, c(0, 1, 60, 100)), []grain.Range{to(60, 100), to(0, 40)}, []int{0}},
		{"as fine as each other", album(2, c(0, 1, 0, 0), c(1, chart, 7, 9)), []grain.Range{to(7, 9), to(7, 9)}, []int{0, 1}},
		{"finer by 0 at least", album(2, c(0, 1, 0, 9)), []grain.Range{all(), all()}, []int{0, 1}},
		{"finer by 1 at least", album(2, c(0, 1, 1, 9)), []grain.Range{to(1, 100), to(0, 99)}, []int{0}},
		{"either may be finer", album(2, c(0, 1, -1, 9)), []grain.Range{all(), all()}, []int{0, 1}},
		{"a row of pictures", album(4, c(0, 1, 10, 20), c(1, 2, 10, 20), c(2, 3, 10, 20), c(3, chart, 50, 60)), []grain.Range{to(80, 100), to(70, 90), to(60, 80), to(50, 60)}, []int{0}},
		{"a row that Chart ends", album(4, c(3, 2, 10, 20), c(2, 1, 10, 20), c(1, 0, 10, 20), c(3, chart, 50, 60)), []grain.Range{to(0, 30), to(10, 40), to(30, 50), to(50, 60)}, []int{3}},
		{"two ways", album(3, c(0, 1, 1, 5), c(1, 2, 1, 5), c(0, 2, 9, 100)), []grain.Range{to(9, 100), to(4, 96), to(0, 91)}, []int{0}},
		{"the same comparison twice", album(2, c(0, 1, 3, 9), c(0, 1, 5, 12), c(1, 0, -8, -4)), []grain.Range{to(5, 100), to(0, 95)}, []int{0}},
		{"a ring without slack", album(3, c(0, 1, 5, 5), c(1, 2, 7, 7), c(2, 0, -12, -12)), []grain.Range{to(12, 100), to(7, 95), to(0, 88)}, []int{0}},
		{"a ring with Chart", album(2, c(0, chart, 30, 40), c(1, chart, 50, 60), c(1, 0, 25, 90)), []grain.Range{to(30, 35), to(55, 60)}, []int{1}},
		{"just at the end", album(3, c(0, 1, 40, 60), c(1, 2, 40, 60), c(2, chart, 20, 30)), []grain.Range{to(100, 100), to(60, 60), to(20, 20)}, []int{0}},
		{"not with all others at once", album(3, c(0, 1, 0, 0), c(2, 1, -5, 0), c(0, chart, 7, 9)), []grain.Range{to(7, 9), to(7, 9), to(2, 9)}, []int{0, 1, 2}},
		{"8 in a row", album(8, c(7, 6, 14, 14), c(6, 5, 14, 14), c(5, 4, 14, 14), c(4, 3, 14, 14), c(3, 2, 14, 14), c(2, 1, 14, 14), c(1, 0, 14, 14)), []grain.Range{to(0, 2), to(14, 16), to(28, 30), to(42, 44), to(56, 58), to(70, 72), to(84, 86), to(98, 100)}, []int{7}},
	}
}

func impossibleAlbums() []grain.Album {
	return []grain.Album{
		contrary(), album(2, c(0, 1, 1, 1), c(1, 0, 1, 1)), album(1, c(0, chart, 5, 6), c(0, chart, 7, 8)), album(1, c(0, chart, -9, -1)), album(8, c(3, chart, -1, -1)),
		album(3, c(0, 1, 40, 60), c(1, 2, 40, 60), c(2, chart, 21, 30)), album(3, c(0, 1, 5, 5), c(1, 2, 7, 7), c(2, 0, -11, -11)), album(3, c(0, 1, 5, 5), c(1, 2, 7, 7), c(2, 0, -13, -13)),
		album(3, c(0, 1, 51, 51), c(1, 2, 50, 50)), album(2, c(0, 1, -100, -100), c(0, chart, 1, 1)), album(2, c(0, 1, 100, 100), c(1, chart, 1, 1)),
		album(8, c(7, 6, 15, 20), c(6, 5, 15, 20), c(5, 4, 15, 20), c(4, 3, 15, 20), c(3, 2, 15, 20), c(2, 1, 15, 20), c(1, 0, 15, 20)),
	}
}

// P7.1
func TestGrades(t *testing.T) {
	for _, x := range possibleAlbums() {
		if g, e := grain.Grades(x.album); !slices.Equal(g, x.grades) || e != api.OK {
			t.Errorf("%s: Grades: %v, %v, not %v", x.name, g, e, x.grades)
		}
	}
	if g, e := grain.Grades(album(0)); len(g) > 0 || e != api.OK {
		t.Errorf("Grades of no pictures: %v, %v", g, e)
	}
}

// P7.2
func TestBetween(t *testing.T) {
	for _, x := range []struct {
		a             grain.Album
		first, second int
		want          grain.Range
	}{
		{example(), 2, 0, to(1, 4)}, {example(), 0, 2, to(-4, -1)}, {example(), 0, 1, to(-5, -3)}, {example(), 1, 0, to(3, 5)}, {example(), 2, 1, to(-2, 1)}, {example(), 1, 2, to(-1, 2)},
		{example(), 0, 0, to(0, 0)}, {example(), 1, 1, to(0, 0)}, {example(), 2, 2, to(0, 0)}, {album(1), 0, 0, to(0, 0)}, {album(8), 7, 7, to(0, 0)},
		{album(2), 0, 1, to(-100, 100)}, {album(8), 7, 3, to(-100, 100)}, {album(2, c(0, chart, 30, 40)), 0, 1, to(-70, 40)}, {album(2, c(0, chart, 30, 40)), 1, 0, to(-40, 70)},
		{album(2, c(0, chart, 30, 40), c(1, chart, 20, 70)), 0, 1, to(-40, 20)}, {album(2, c(0, 1, 60, 100)), 0, 1, to(60, 100)}, {album(2, c(0, 1, -100, 60)), 1, 0, to(-60, 100)},
		{album(3, c(0, 1, 1, 5), c(1, 2, 1, 5)), 0, 2, to(2, 10)}, {album(3, c(0, 1, 1, 5), c(1, 2, 1, 5), c(0, 2, 9, 100)), 0, 2, to(9, 10)}, {album(3, c(0, 1, 1, 5), c(1, 2, 1, 5), c(0, 2, 9, 100)), 1, 2, to(4, 5)},
	} {
		if r, e := grain.Between(x.a, x.first, x.second); r != x.want || e != api.OK {
			t.Errorf("Between %d and %d of %v: %v, %v", x.first, x.second, x.a, r, e)
		}
	}
}

// P7.2, P7.4, P7.7
func TestShowsAndChain(t *testing.T) {
	for _, x := range possibleAlbums() {
		for picture, r := range x.grades {
			for _, high := range []bool{false, true} {
				end := endOf(r, high)
				g, e := grain.Shows(x.album, picture, high)
				if e != api.OK || len(g) != x.album.Pictures || g[picture] != end || !grain.ProveFit(x.album, g) || !fitByHand(x.album, g) {
					t.Errorf("%s: Shows of %d, %v: %v, %v", x.name, picture, high, g, e)
				}
				chain, e := grain.Chain(x.album, picture, high)
				told, is := tellsByHand(x.album, picture, chain)
				if e != api.OK || !is || len(chain) > api.MaxGrainPictures || endOf(told, high) != end {
					t.Errorf("%s: Chain of %d, %v: %v, %v tells %v, not %d", x.name, picture, high, chain, e, told, end)
				}
			}
		}
	}
}

// P7.4: there is one chain alone for each of these.
func TestOnlyChains(t *testing.T) {
	row := album(8, c(7, 6, 14, 14), c(6, 5, 14, 14), c(5, 4, 14, 14), c(4, 3, 14, 14), c(3, 2, 14, 14), c(2, 1, 14, 14), c(1, 0, 14, 14), c(0, chart, 1, 1))
	for _, x := range []struct {
		a       grain.Album
		picture int
		high    bool
		want    []int
	}{
		{example(), 0, true, []int{3, 2, 1}}, {example(), 0, false, []int{0}}, {example(), 1, true, []int{3, 2}}, {example(), 1, false, []int{0, 1}}, {example(), 2, true, []int{3}}, {example(), 2, false, []int{0, 1, 2}},
		{album(1), 0, true, nil}, {album(1), 0, false, nil}, {album(2, c(0, 1, 1, 9)), 0, false, []int{0}}, {album(2, c(0, 1, 1, 9)), 1, true, []int{0}},
		{row, 7, true, []int{7, 6, 5, 4, 3, 2, 1, 0}}, {row, 7, false, []int{7, 6, 5, 4, 3, 2, 1, 0}},
	} {
		if chain, e := grain.Chain(x.a, x.picture, x.high); !slices.Equal(chain, x.want) || e != api.OK {
			t.Errorf("Chain of %v, %d, %v: %v, %v", x.a, x.picture, x.high, chain, e)
		}
	}
}

// P7.3
func TestFinest(t *testing.T) {
	for _, x := range possibleAlbums() {
		if l, e := grain.Finest(x.album); !slices.Equal(l, x.finest) || e != api.OK {
			t.Errorf("%s: Finest: %v, %v, not %v", x.name, l, e, x.finest)
		}
	}
	if l, e := grain.Finest(album(0)); len(l) > 0 || e != api.ErrNone {
		t.Errorf("Finest of no pictures: %v, %v", l, e)
	}
}

// P7.4
func TestTells(t *testing.T) {
	high := album(3, c(0, chart, 90, 95), c(1, 0, 20, 30), c(0, chart, -9, -1), c(2, 1, -50, -40), c(1, chart, 5, 5))
	for _, x := range []struct {
		a       grain.Album
		picture int
		chain   []int
		want    grain.Range
	}{
		{example(), 0, []int{3, 2, 1}, to(0, 43)}, {example(), 1, []int{0, 1}, to(43, 50)}, {example(), 2, []int{1, 2}, to(1, 100)},
		{example(), 0, nil, all()}, {example(), 2, []int{}, all()}, {example(), 0, []int{0}, to(40, 45)}, {example(), 2, []int{3}, to(0, 44)},
		{example(), 1, []int{1}, to(3, 100)}, {example(), 0, []int{1}, to(0, 97)}, {example(), 2, []int{2}, to(0, 100)}, {example(), 1, []int{2}, to(0, 100)}, {example(), 1, []int{3, 2}, to(0, 46)}, {example(), 2, []int{0, 1, 2}, to(41, 54)},
		{example(), 0, []int{0, 1, 1}, to(38, 47)}, {example(), 1, []int{1, 1, 1}, to(3, 100)}, {example(), 0, []int{1, 1}, to(0, 97)}, {example(), 0, slices.Repeat([]int{1}, 20), to(0, 97)}, {example(), 1, append([]int{0}, slices.Repeat([]int{1}, 19)...), to(25, 68)},
		// What contradicts itself is told, as well: the Lo of it may be above its Hi, and it goes on from there.
		{high, 0, []int{0}, to(90, 95)}, {high, 1, []int{0, 1}, to(110, 100)}, {high, 0, []int{0, 1, 1}, to(80, 80)}, {high, 0, []int{2}, to(0, -1)}, {high, 1, []int{2, 1}, to(20, 29)}, {high, 2, []int{0, 1, 3}, to(60, 60)},
		{high, 1, []int{3}, to(40, 100)}, {high, 2, []int{3}, to(0, 60)}, {high, 2, []int{4, 3}, to(0, -35)}, {high, 1, []int{4, 3, 3}, to(40, 15)}, {contrary(), 2, []int{4}, to(0, 95)}, {contrary(), 2, []int{0, 4}, to(31, 40)},
	} {
		if r, e := grain.Tells(x.a, x.picture, x.chain); r != x.want || e != api.OK {
			t.Errorf("Tells of %v, %d by %v: %v, %v", x.a, x.picture, x.chain, r, e)
		}
	}
}

// P7.5
func TestDoubtful(t *testing.T) {
	for _, x := range possibleAlbums() {
		if d, e := grain.Doubtful(x.album); len(d) > 0 || e != api.OK {
			t.Errorf("%s: Doubtful: %v, %v", x.name, d, e)
		}
	}
	same := c(0, 1, 1, 1)
	for _, x := range []struct {
		a    grain.Album
		want []int
	}{
		{album(0), nil}, {contrary(), []int{1}}, {album(2, same, c(1, 0, 1, 1)), []int{0}}, {album(2, c(0, chart, -9, -1), c(1, 0, 1, 1), c(1, chart, -5, -5)), []int{0, 2}},
		{album(2, same, c(0, 1, 2, 2), c(0, 1, 2, 3)), []int{0}}, {album(2, same, same, c(0, 1, 2, 3)), []int{2}}, {album(2, same, c(0, 1, 2, 2), same, c(0, 1, 2, 2)), []int{0, 2}}, {album(2, same, c(0, 1, 2, 2), c(0, 1, 2, 2), same), []int{0, 3}},
		{album(1, slices.Repeat([]grain.Comparison{c(0, chart, -9, -1)}, 12)...), []int{0, 1, 2, 3, 4, 5, 6, 7, 8, 9, 10, 11}},
		{album(1, c(0, chart, 1, 1), c(0, chart, 2, 2), c(0, chart, 3, 3), c(0, chart, 4, 4), c(0, chart, 5, 5), c(0, chart, 6, 6), c(0, chart, 7, 7), c(0, chart, 8, 8), c(0, chart, 9, 9), c(0, chart, 10, 10), c(0, chart, 11, 11), c(0, chart, 12, 12)), []int{0, 1, 2, 3, 4, 5, 6, 7, 8, 9, 10}},
		{album(3, c(0, 1, 40, 60), c(1, 2, 40, 60), c(2, chart, 21, 30)), []int{0}}, {album(3, c(2, chart, 1, 9), c(0, 1, 51, 51), c(1, 2, 50, 50)), []int{1}}, {album(3, c(0, chart, 9, 9), c(1, chart, 9, 9), c(0, 2, 1, 1), c(1, 2, 2, 2)), []int{0}},
		{album(4, c(0, 1, 1, 1), c(2, 3, 1, 1), c(1, 0, 1, 1), c(3, 2, 1, 1)), []int{0, 1}}, {album(3, c(0, 1, 1, 9), c(1, 2, 1, 9), c(2, 0, 1, 9), c(2, 1, 1, 9), c(0, 2, 1, 9)), []int{1, 2}},
	} {
		if d, e := grain.Doubtful(x.a); !slices.Equal(d, x.want) || e != api.OK {
			t.Errorf("Doubtful of %v: %v, %v, not %v", x.a, d, e, x.want)
		}
	}
}

// P7.5
func TestProveFit(t *testing.T) {
	for _, x := range []struct {
		a      grain.Album
		grades []int
		want   bool
	}{
		{example(), []int{40, 44, 42}, true}, {example(), []int{43, 46, 44}, true}, {example(), []int{40, 43, 41}, true}, {example(), []int{40, 42, 42}, false}, {example(), []int{40, 46, 44}, false}, {example(), []int{39, 43, 42}, false}, {example(), []int{46, 49, 44}, false}, {example(), []int{40, 45, 45}, false},
		{example(), []int{40, 45, 43}, true}, {example(), []int{40, 45, 42}, false}, {contrary(), []int{40, 44, 42}, false}, {contrary(), []int{45, 48, 40}, false}, {contrary(), []int{40, 44, 35}, false},
		{album(2, c(0, 1, -2, 4)), []int{10, 6}, true}, {album(2, c(0, 1, -2, 4)), []int{10, 5}, false}, {album(2, c(0, 1, -2, 4)), []int{10, 12}, true}, {album(2, c(0, 1, -2, 4)), []int{10, 13}, false},
		{album(1), []int{0}, true}, {album(1), []int{100}, true}, {album(0), nil, true}, {album(0), []int{}, true}, {album(8), make([]int, 8), true},
		// Not as described.
		{example(), nil, false}, {example(), []int{40, 44}, false}, {example(), []int{40, 44, 42, 42}, false}, {example(), make([]int, 100000), false}, {album(0), []int{0}, false}, {album(1), nil, false},
		{album(1), []int{-1}, false}, {album(1), []int{101}, false}, {album(1, c(0, chart, -9, -1)), []int{-1}, false}, {album(2, c(0, 1, 1, 1)), []int{101, 100}, false}, {album(2, c(0, 1, 1, 1)), []int{0, -1}, false},
		{album(2), []int{math.MinInt, math.MaxInt}, false}, {album(2, c(0, 1, 1, 1)), []int{math.MinInt, math.MaxInt}, false}, {grain.Album{}, nil, true},
	} {
		if is := grain.ProveFit(x.a, x.grades); is != x.want {
			t.Errorf("ProveFit of %v, %v: %v", x.a, x.grades, is)
		}
	}
	for _, x := range badAlbums() {
		for _, grades := range [][]int{nil, {7}, {7, 7}, {40, 44, 42}, {41, 44, 42}, make([]int, 8), make([]int, 9)} {
			if grain.ProveFit(x.Album, grades) {
				t.Errorf("ProveFit of %v: %s", grades, x.name)
			}
		}
	}
}

// hasError holds the calls that need an album that is possible against an error and zero values.
func hasError(t *testing.T, name string, a grain.Album, picture int, want api.Errno) {
	t.Helper()
	for _, other := range []int{picture, 0} {
		if r, e := grain.Between(a, picture, other); r != to(0, 0) || e != want {
			t.Errorf("%s: Between: %v, %v", name, r, e)
		}
		if r, e := grain.Between(a, other, picture); r != to(0, 0) || e != want {
			t.Errorf("%s: Between: %v, %v", name, r, e)
		}
	}
	for _, high := range []bool{false, true} {
		if g, e := grain.Shows(a, picture, high); len(g) > 0 || e != want {
			t.Errorf("%s: Shows: %v, %v", name, g, e)
		}
		if l, e := grain.Chain(a, picture, high); len(l) > 0 || e != want {
			t.Errorf("%s: Chain: %v, %v", name, l, e)
		}
	}
}

// hasErrorOfAll holds the calls that name no picture against an error and zero values.
func hasErrorOfAll(t *testing.T, name string, a grain.Album, want api.Errno) {
	t.Helper()
	if g, e := grain.Grades(a); len(g) > 0 || e != want {
		t.Errorf("%s: Grades: %v, %v", name, g, e)
	}
	if l, e := grain.Finest(a); len(l) > 0 || e != want {
		t.Errorf("%s: Finest: %v, %v", name, l, e)
	}
}

func tellsError(t *testing.T, name string, a grain.Album, picture int, chain []int, want api.Errno) {
	t.Helper()
	if r, e := grain.Tells(a, picture, chain); r != to(0, 0) || e != want {
		t.Errorf("%s: Tells of %d by %v: %v, %v", name, picture, chain, r, e)
	}
}

// R1, R2: what is wrong with the album comes before what is wrong with the rest.
func TestErrors(t *testing.T) {
	for _, x := range badAlbums() {
		hasErrorOfAll(t, x.name, x.Album, x.e)
		if d, e := grain.Doubtful(x.Album); len(d) > 0 || e != x.e {
			t.Errorf("%s: Doubtful: %v, %v", x.name, d, e)
		}
		for _, picture := range []int{0, 1, 3, -1, 8, 9, math.MinInt, math.MaxInt} {
			hasError(t, x.name, x.Album, picture, x.e)
			for _, chain := range [][]int{nil, {0}, {9, 9}, make([]int, 21)} {
				tellsError(t, x.name, x.Album, picture, chain, x.e)
			}
		}
	}
}

// R1, R2: the calls' own errors, behind those of the album.
func TestErrorsOfCalls(t *testing.T) {
	for _, a := range append(impossibleAlbums(), example(), album(0), album(7)) {
		for _, picture := range []int{-1, a.Pictures, 8, math.MinInt, math.MaxInt} {
			hasError(t, "no picture", a, picture, api.ErrRange)
			for _, chain := range [][]int{nil, {0}, {-1}, make([]int, 21)} {
				tellsError(t, "no picture", a, picture, chain, api.ErrRange)
			}
		}
	}
	for _, a := range impossibleAlbums() {
		hasErrorOfAll(t, "impossible", a, api.ErrFail)
		for picture := range a.Pictures {
			hasError(t, "impossible", a, picture, api.ErrFail)
			if r, e := grain.Tells(a, picture, nil); r != all() || e != api.OK {
				t.Errorf("Tells of %v, %d: %v, %v", a, picture, r, e)
			}
		}
	}
	for _, chain := range [][]int{slices.Repeat([]int{1}, 21), slices.Repeat([]int{-1}, 21), make([]int, 100000)} {
		tellsError(t, "too many", example(), 0, chain, api.ErrLimit)
		tellsError(t, "too many", contrary(), 0, chain, api.ErrLimit)
	}
	for _, x := range []struct {
		picture int
		chain   []int
	}{
		{0, []int{2}}, {1, []int{0}}, {2, []int{1}}, {0, []int{3}}, {0, []int{4}}, {0, []int{-1}}, {0, []int{math.MinInt}}, {0, []int{math.MaxInt}},
		{0, []int{0, 0}}, {0, []int{1, 0}}, {1, []int{1, 0, 1}}, {2, []int{0, 2}}, {0, []int{3, 1}}, {1, []int{0, 2}}, {1, []int{3, 1}}, {0, []int{-1, 1}}, {0, []int{4, 1}}, {0, []int{2, 1, 1}}, {0, slices.Repeat([]int{1, 2}, 10)},
		{0, append(slices.Repeat([]int{1}, 18), 2, 1)}, {0, append([]int{3}, slices.Repeat([]int{1}, 19)...)}, {0, []int{1, 2}}, {2, []int{2, 1}}, {1, []int{2, 1}},
	} {
		tellsError(t, "no chain", example(), x.picture, x.chain, api.ErrLink)
	}
	tellsError(t, "no comparisons", album(3), 0, []int{0}, api.ErrLink)
}

type answers struct {
	grades        []grain.Range
	shown         [2][]int
	chains        [2][]int
	finest, doubt []int
}

// R4, and that nothing is kept between calls.
func TestMemory(t *testing.T) {
	a, odd, chain, grades := example(), contrary(), []int{3, 2, 1}, []int{40, 44, 42}
	call := func() answers {
		var x answers
		x.grades, _ = grain.Grades(a)
		x.finest, _ = grain.Finest(a)
		x.doubt, _ = grain.Doubtful(odd)
		for i, high := range []bool{false, true} {
			x.shown[i], _ = grain.Shows(a, 2-2*i, high)
			x.chains[i], _ = grain.Chain(a, 2-2*i, high)
		}
		grain.CheckAlbum(a)
		grain.Between(a, 0, 1)
		grain.Tells(a, 0, chain)
		grain.ProveFit(a, grades)
		return x
	}
	first, second := call(), call()
	for i := range first.grades[:cap(first.grades)] {
		first.grades[:cap(first.grades)][i] = to(-7, -7)
	}
	for _, l := range [][]int{first.finest, first.doubt, first.shown[0], first.shown[1], first.chains[0], first.chains[1]} {
		for i := range l[:cap(l)] {
			l[:cap(l)][i] = -7
		}
	}
	if third := call(); !reflect.DeepEqual(second, third) {
		t.Errorf("%v, behind %v", third, second)
	}
	if !reflect.DeepEqual(a, example()) || !reflect.DeepEqual(odd, contrary()) || !slices.Equal(chain, []int{3, 2, 1}) || !slices.Equal(grades, []int{40, 44, 42}) {
		t.Errorf("written to: %v, %v, %v, %v", a, odd, chain, grades)
	}
}
