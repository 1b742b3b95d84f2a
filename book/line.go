package book

import (
	"strconv"
	"strings"

	"tensile/api"
)

// most is the greatest number of nine digits.
const most = 999999999

// refusal tells why a line is refused.
type refusal api.Errno

// refuse leaves the line undone if the question applies.
func refuse(applies bool, why api.Errno) {
	if applies {
		panic(refusal(why))
	}
}

// word is how many numbers are behind a word, and what it does with them. What it asks comes before what it changes, so that a line that is refused changes nothing.
type word struct {
	numbers int
	do      func(*work, []int)
}

func words() map[string]word {
	return map[string]word{
		"cert": {7, (*work).cert},
		"bad":  {1, (*work).bad},
		"lot":  {3, (*work).lot},
		"test": {4, (*work).test},
		"pass": {1, (*work).pass},
		"run":  {3, (*work).run},
	}
}

// read returns the word of a line, and the numbers behind it.
func read(line string) (word, []int) {
	parts := strings.Split(line, " ")
	w, isKnown := words()[parts[0]]
	refuse(!isKnown || len(parts) != 1+w.numbers, api.ErrForm)
	var numbers []int
	for _, part := range parts[1:] {
		numbers = append(numbers, readNumber(part))
	}
	return w, numbers
}

// readNumber returns the number of a text, which is how this number is written.
func readNumber(text string) int {
	n, e := strconv.Atoi(text)
	refuse(e != nil || strconv.Itoa(n) != text || !isFromTo(n, -most, most), api.ErrForm)
	return n
}

// do returns OK, or why the line is refused.
func (w *work) do(line string) (e api.Errno) {
	defer func() {
		switch why := recover().(type) {
		case refusal:
			e = api.Errno(why)
		}
	}()
	what, numbers := read(line)
	what.do(w, numbers)
	return api.OK
}

func (w *work) doAll(lines []string) []api.Errno {
	var errors []api.Errno
	for _, line := range lines {
		errors = append(errors, w.do(line))
	}
	return errors
}

// play does the lines of a session, from nothing on.
func play(lines []string) (*work, []api.Errno, api.Errno) {
	if e := check(lines); e != api.OK {
		return nil, nil, e
	}
	w := start()
	return w, w.doAll(lines), api.OK
}
