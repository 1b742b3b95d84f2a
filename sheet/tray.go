package sheet

import (
	"iter"
	"maps"
	"slices"

	"tensile/api"
)

// known has the cards that are known, by their places, and how many there are of each sheet, by its number.
type known struct {
	cards map[place]card
	many  map[int]int
}

// tray has the cards of some files, and how many of their blocks are spoilt.
type tray struct {
	known
	spoilt int
}

func emptyTray() tray {
	return tray{known: known{map[place]card{}, map[int]int{}}}
}

// fill puts the cards of the files on a tray.
func fill(files ...[]byte) (tray, api.Errno) {
	if len(files) > api.MaxSheetFiles || !each(files, isShort) {
		return tray{}, api.ErrLimit
	}
	t := emptyTray()
	for _, file := range files {
	blocks:
		for b, isWhole := range blocksOf(file) {
			c, isCard := b.read()
			switch {
			case !isWhole || !isCard:
				t.spoilt++
				continue blocks
			case t.contradicts(c):
				return tray{}, api.ErrTwice
			}
			t.put(c)
		}
	}
	return t, api.OK
}

func (k known) put(c card) {
	k.cards[c.place] = c
	k.many[c.number] = c.many
}

func (k known) isThere(at place) bool {
	_, is := k.cards[at]
	return is
}

// has reports whether the card is known; another one at its place is not the same.
func (k known) has(c card) bool {
	return k.isThere(c.place) && k.cards[c.place].lay() == c.lay()
}

// contradicts reports whether the card and one that is known contradict each other.
func (k known) contradicts(c card) bool {
	many, isKnown := k.many[c.number]
	return isKnown && many != c.many || k.isThere(c.place) && !k.has(c)
}

// numbers returns those of the sheets that have cards here, rising.
func (k known) numbers() []int { return slices.Sorted(maps.Keys(k.many)) }

// places brings the places of all cards that these sheets have, here or not, by rising number, and then by rising index.
func (k known) places() iter.Seq[place] {
	return func(bring func(place) bool) {
		for _, number := range k.numbers() {
			for index := range k.many[number] {
				if !bring(place{number, index}) {
					return
				}
			}
		}
	}
}

// inOrder returns the cards.
func (k known) inOrder() []card {
	var all []card
	for at := range k.places() {
		if k.isThere(at) {
			all = append(all, k.cards[at])
		}
	}
	return all
}

// missing returns what lacks.
func (k known) missing() []Lack {
	var all []Lack
	for at := range k.places() {
		if !k.isThere(at) {
			all = append(all, Lack{at.number, at.index})
		}
	}
	return all
}

// pieces returns those of the number, in memory of their own.
func (k known) pieces(number int) [][]Point {
	var all [][]Point
	for index := range k.many[number] {
		at := place{number, index}
		if !k.isThere(at) {
			continue
		}
		if !k.isThere(place{number, index - 1}) {
			all = append(all, nil)
		}
		last := len(all) - 1
		all[last] = append(all[last], k.cards[at].points...)
	}
	return all
}

// isWhole reports whether there is such a sheet, and its cards are known, all of them.
func (k known) isWhole(s Sheet) bool {
	return check(s) == api.OK && each(s.cards(), k.has)
}

// sheets returns those that are whole, by rising number. The points of all cards are one piece.
func (k known) sheets() []Sheet {
	var all []Sheet
	for _, number := range k.numbers() {
		if s := (Sheet{number, k.pieces(number)[0]}); k.isWhole(s) {
			all = append(all, s)
		}
	}
	return all
}
