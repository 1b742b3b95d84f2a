package book_test

import (
	"fmt"
	"maps"
	"math/rand/v2"
	"regexp"
	"slices"
	"strconv"
	"strings"
	"sync"
	"testing"

	"tensile/api"
	"tensile/book"
	"tensile/chain"
	"tensile/plan"
	"tensile/queue"
)

// The functions of this file say word for word what the chapter's definitions do.

// hand is a state that is worked on by hand.
type hand struct{ book.State }

// copied returns a state with lists of its own.
func (h hand) copied() hand {
	s := h.State
	return hand{book.State{Certs: slices.Clone(s.Certs), Bad: slices.Clone(s.Bad), Lots: slices.Clone(s.Lots), Tests: slices.Clone(s.Tests), Runs: slices.Clone(s.Runs)}}
}

func houseBook(certs []chain.Cert) chain.Book {
	return chain.Book{Certs: certs, Items: []chain.Item{
		0: {Standard: true, Value: chain.Range{Lo: 0, Hi: 0}},
		1: {Standard: true, Value: chain.Range{Lo: -2, Hi: 2}},
		2: {Drift: 1}, 3: {Drift: 1}, 4: {Drift: 0}, 5: {Drift: 0},
	}}
}

func houseQueue(runs []queue.Run) queue.Queue {
	return queue.Queue{Runs: runs, Machines: [][]queue.Range{0: {{Lo: 10, Hi: 13}}, 1: {}}}
}

func (h hand) cert(number int) int {
	return slices.IndexFunc(h.Certs, func(c chain.Cert) bool { return c.Number == number })
}

func (h hand) lot(number int) int {
	return slices.IndexFunc(h.Lots, func(l book.Lot) bool { return l.Number == number })
}

// withoutBad is the book without its bad certificates.
func (h hand) withoutBad() chain.Book {
	var certs []chain.Cert
	for _, c := range h.Certs {
		if !slices.Contains(h.Bad, c.Number) {
			certs = append(certs, c)
		}
	}
	return houseBook(certs)
}

// held returns the Numbers that hold in the book without its bad certificates, and without some more.
func (h hand) held(bad ...int) []int {
	numbers, e := chain.Held(h.withoutBad(), bad)
	if e != api.OK {
		panic(e)
	}
	return numbers
}

// isHeld tells whether an instrument is held on a day by the certificates with the numbers.
func (h hand) isHeld(item, day int, numbers []int) bool {
	for _, c := range h.Certs {
		if c.Item == item && c.Day <= day && day <= c.Day+c.Valid && slices.Contains(numbers, c.Number) {
			return true
		}
	}
	return false
}

func (h hand) stands(x book.Test, bad ...int) bool { return h.isHeld(x.Item, x.Day, h.held(bad...)) }

// isGood tells whether a test that stands is good.
func (h hand) isGood(x book.Test) bool {
	span, e := chain.Span(h.withoutBad(), x.Item, x.Day)
	if e != api.OK {
		panic(e)
	}
	return x.Reading+span.Lo >= h.Lots[h.lot(x.Lot)].Limit
}

func (h hand) testsOf(number int) []book.Test {
	var all []book.Test
	for _, x := range h.Tests {
		if x.Lot == number {
			all = append(all, x)
		}
	}
	return all
}

func (h hand) standing(number int) []book.Test {
	return slices.DeleteFunc(h.testsOf(number), func(x book.Test) bool { return !h.stands(x) })
}

// results returns a lot's results, and what they say. Two pieces are taken at first: none may be bad, and two are too many; then two more, with one bad one of all at most.
func (h hand) results(number int) (results []bool, verdict uint8) {
	bad := 0
	for _, x := range h.standing(number) {
		isBad := !h.isGood(x)
		results = append(results, isBad)
		if isBad {
			bad++
		}
		switch {
		case len(results) == 2 && bad == 0, len(results) == 4 && bad <= 1:
			return results, plan.Accepted
		case len(results) == 2 && bad == 2, len(results) == 4:
			return results, plan.Rejected
		}
	}
	return results, plan.Open
}

func (h hand) verdict(number int) uint8 {
	_, verdict := h.results(number)
	return verdict
}

func (h hand) isRecalled(number int) bool {
	return h.Lots[h.lot(number)].Passed && h.verdict(number) != plan.Accepted
}

func (h hand) recalled() []int {
	var all []int
	for _, l := range h.Lots {
		if h.isRecalled(l.Number) {
			all = append(all, l.Number)
		}
	}
	return all
}

func (h hand) withdrawn(number int) []int {
	var all []int
	for i, x := range h.Tests {
		if h.stands(x) && !h.stands(x, number) {
			all = append(all, i)
		}
	}
	return all
}

func (h hand) end() int {
	plan, end, e := queue.Earliest(houseQueue(h.Runs))
	if e != api.OK || !queue.ProvePlan(houseQueue(h.Runs), plan, end) {
		panic(e)
	}
	return end
}

func (h hand) report() string {
	out := ""
	for _, l := range h.Lots {
		out += fmt.Sprintf("lot %d tests %d %s", l.Number, len(h.standing(l.Number)), map[uint8]string{plan.Accepted: "accepted", plan.Rejected: "rejected", plan.Open: "open"}[h.verdict(l.Number)])
		if l.Passed {
			out += " passed"
		}
		if h.isRecalled(l.Number) {
			out += " recalled"
		}
		out += "\n"
	}
	return out + fmt.Sprintf("certs %d held %d bad %d\nend %d\n", len(h.Certs), len(h.held()), len(h.Bad), h.end())
}

// forms are of the lines of each word.
func forms() map[string]*regexp.Regexp {
	all := map[string]*regexp.Regexp{}
	for word, many := range map[string]int{"cert": 7, "bad": 1, "lot": 3, "test": 4, "pass": 1, "run": 3} {
		all[word] = regexp.MustCompile("^" + word + strings.Repeat(" (0|-?[1-9][0-9]{0,8})", many) + "$")
	}
	return all
}

var compiled = forms()

// formOf returns the word and the numbers of a line that has a form.
func formOf(line string) (word string, numbers []int, hasForm bool) {
	for word, form := range compiled {
		if found := form.FindStringSubmatch(line); found != nil {
			for _, text := range found[1:] {
				n, e := strconv.Atoi(text)
				if e != nil {
					panic(e)
				}
				numbers = append(numbers, n)
			}
			return word, numbers, true
		}
	}
	return "", nil, false
}

// do returns the state behind a line, and its error.
func (h hand) do(line string) (hand, api.Errno) {
	word, n, hasForm := formOf(line)
	if !hasForm {
		return h, api.ErrForm
	}
	behind := h.copied()
	var e api.Errno
	switch word {
	case "cert":
		e = behind.addCert(chain.Cert{Number: n[0], Item: n[1], By: n[2], Day: n[3], Valid: n[4], Diff: chain.Range{Lo: n[5], Hi: n[6]}})
	case "bad":
		e = behind.addBad(n[0])
	case "lot":
		e = behind.addLot(n[0], n[1], n[2])
	case "test":
		e = behind.addTest(book.Test{Lot: n[0], Item: n[1], Day: n[2], Reading: n[3]})
	case "pass":
		e = behind.pass(n[0])
	case "run":
		e = behind.addRun(n[0], n[1], n[2])
	}
	if e != api.OK {
		return h, e
	}
	return behind, api.OK
}

func (h *hand) addCert(c chain.Cert) api.Errno {
	if h.cert(c.Number) >= 0 {
		return api.ErrTwice
	}
	h.Certs = append(h.Certs, c)
	if e := chain.CheckBook(houseBook(h.Certs)); e != api.OK {
		return e
	}
	if _, e := chain.Suspects(h.withoutBad()); e != api.ErrNone {
		return api.ErrFail
	}
	return api.OK
}

func (h *hand) addBad(number int) api.Errno {
	switch {
	case h.cert(number) < 0:
		return api.ErrNone
	case slices.Contains(h.Bad, number):
		return api.ErrTwice
	}
	h.Bad = append(h.Bad, number)
	slices.Sort(h.Bad)
	return api.OK
}

func (h *hand) addLot(number, pieces, limit int) api.Errno {
	switch {
	case number < 1 || number > 99 || pieces < 4 || pieces > 30 || limit < 0 || limit > 1000:
		return api.ErrRange
	case h.lot(number) >= 0:
		return api.ErrTwice
	}
	h.Lots = append(h.Lots, book.Lot{Number: number, Pieces: pieces, Limit: limit})
	slices.SortFunc(h.Lots, func(a, b book.Lot) int { return a.Number - b.Number })
	return api.OK
}

func (h *hand) addTest(x book.Test) api.Errno {
	switch {
	case x.Item < 2 || x.Item > 5 || x.Day < 0 || x.Day > 1000 || x.Reading < 0 || x.Reading > 2000:
		return api.ErrRange
	case h.lot(x.Lot) < 0:
		return api.ErrNone
	case h.Lots[h.lot(x.Lot)].Passed || h.verdict(x.Lot) != plan.Open:
		return api.ErrState
	case len(h.testsOf(x.Lot)) >= h.Lots[h.lot(x.Lot)].Pieces:
		return api.ErrLimit
	case !h.stands(x):
		return api.ErrLink
	}
	h.Tests = append(h.Tests, x)
	return api.OK
}

func (h *hand) pass(number int) api.Errno {
	switch {
	case h.lot(number) < 0:
		return api.ErrNone
	case h.Lots[h.lot(number)].Passed:
		return api.ErrTwice
	case h.verdict(number) == plan.Open:
		return api.ErrState
	case h.verdict(number) == plan.Rejected:
		return api.ErrSpoil
	}
	h.Lots[h.lot(number)].Passed = true
	return api.OK
}

func (h *hand) addRun(hours, ready, on int) api.Errno {
	switch {
	case hours < 1 || hours > 40 || ready < 0 || ready > 40 || on < 1 || on > 3:
		return api.ErrRange
	case len(h.Runs) >= 6:
		return api.ErrLimit
	}
	h.Runs = append(h.Runs, queue.Run{Hours: hours, Ready: ready, On: [][]bool{1: {true, false}, 2: {false, true}, 3: {true, true}}[on]})
	if _, _, e := queue.Earliest(houseQueue(h.Runs)); e != api.OK {
		return api.ErrFail
	}
	return api.OK
}

// doAll returns the state behind lines, and their errors.
func (h hand) doAll(lines []string) (hand, []api.Errno) {
	var errors []api.Errno
	for _, line := range lines {
		var e api.Errno
		h, e = h.do(line)
		errors = append(errors, e)
	}
	return h, errors
}

// recordOf returns the record of a line, however long it is.
func recordOf(i int, s string) string {
	check := 11 * (i + 1)
	for k := 0; k < len(s); k++ {
		check += (k + 1) * (int(s[k]) + 1)
	}
	return fmt.Sprintf("{%03d:%03d:%05d}%s\n", len(s), 999-len(s), check%99991, s)
}

func fileOf(lines ...string) string {
	out := ""
	for i, s := range lines {
		out += recordOf(i, s)
	}
	return out
}

// recovered returns what can be read: at each place the line, of those of all lengths, whose record is there.
func recovered(b string) (lines []string, bytes int) {
	for len(lines) < 50 {
		found := -1
		for n := 0; n <= 200 && bytes+15+n < len(b); n++ {
			length := string([]byte{byte('0' + n/100), byte('0' + n/10%10), byte('0' + n%10)})
			if b[bytes+1:bytes+4] == length && strings.HasPrefix(b[bytes:], recordOf(len(lines), b[bytes+15:bytes+15+n])) {
				found = n
			}
		}
		if found < 0 {
			break
		}
		lines = append(lines, b[bytes+15:bytes+15+found])
		bytes += 16 + found
	}
	return lines, bytes
}

func resumed(b string, more []string) (string, api.Errno) {
	lines, _ := recovered(b)
	h, _ := hand{}.doAll(lines)
	_, errors := h.doAll(more)
	for i, s := range more {
		if errors[i] == api.OK {
			lines = append(lines, s)
		}
	}
	if len(lines) > 50 {
		return "", api.ErrLimit
	}
	return fileOf(lines...), api.OK
}

func areSame(a, b book.State) bool {
	areRuns := func(x, y queue.Run) bool {
		return x.Hours == y.Hours && x.Ready == y.Ready && slices.Equal(x.On, y.On)
	}
	return slices.Equal(a.Certs, b.Certs) && slices.Equal(a.Bad, b.Bad) && slices.Equal(a.Lots, b.Lots) && slices.Equal(a.Tests, b.Tests) && slices.EqualFunc(a.Runs, b.Runs, areRuns)
}

// counts tell how many of the random inputs were of some kind.
type counts map[string]int

func (k counts) areLess(t *testing.T, than int, names ...string) {
	t.Helper()
	for _, name := range names {
		if k[name] < than {
			t.Errorf("%s: only %d of %v", name, k[name], k)
		}
	}
}

// kindOf names a line by its word and its error.
func kindOf(line string, e api.Errno) string {
	word, _, hasForm := formOf(line)
	if !hasForm {
		word = "form"
	}
	return word + " " + strconv.Itoa(int(e))
}

// P12.1 to P12.4
func TestLinesByHand(t *testing.T) {
	t.Parallel()
	k := counts{}
	for _, lines := range sessions(400) {
		h, want := hand{}.doAll(lines)
		s, errors, e := book.Play(lines)
		if e != api.OK || !slices.Equal(errors, want) || !areSame(s, h.State) {
			t.Fatalf("Play of %q: %v, %v, %v", lines, s, errors, e)
		}
		for i, line := range lines {
			k[kindOf(line, errors[i])]++
		}
		r, e := book.Recalled(lines)
		if e != api.OK || !slices.Equal(r, h.recalled()) {
			t.Fatalf("Recalled of %q: %v, %v", lines, r, e)
		}
		if len(r) > 0 {
			k["recalled"]++
		}
		if text, e := book.Report(lines); e != api.OK || text != h.report() {
			t.Fatalf("Report of %q: %q, %v", lines, text, e)
		}
		k.addWithdrawn(t, lines, h)
	}
	k.areLess(t, 15, "form 4", "cert 0", "cert 1", "cert 3", "cert 6", "cert 9", "bad 0", "bad 6", "bad 7", "lot 0", "lot 2", "lot 6", "test 0", "test 2", "test 3", "test 7", "test 8", "test 10")
	k.areLess(t, 15, "pass 0", "pass 6", "pass 7", "pass 8", "pass 11", "run 0", "run 2", "run 3", "run 9", "recalled", "withdrawn", "no test withdrawn", "not there")
}

// addWithdrawn holds what Withdrawn tells of each certificate, and of numbers that are none's, against what is told by hand.
func (k counts) addWithdrawn(t *testing.T, lines []string, h hand) {
	t.Helper()
	numbers := []int{len(lines), 1000}
	for i, c := range h.Certs {
		if (i+len(lines))%5 == 0 {
			numbers = append(numbers, c.Number)
		}
	}
	for _, number := range numbers {
		l, e := book.Withdrawn(lines, number)
		switch {
		case h.cert(number) < 0:
			k["not there"]++
			if len(l) != 0 || e != api.ErrNone {
				t.Fatalf("Withdrawn of %q, %d: %v, %v", lines, number, l, e)
			}
		case e != api.OK || !slices.Equal(l, h.withdrawn(number)):
			t.Fatalf("Withdrawn of %q, %d: %v, %v", lines, number, l, e)
		case len(l) == 0:
			k["no test withdrawn"]++
		default:
			k["withdrawn"]++
		}
	}
}

// P12.5
func TestFilesByHand(t *testing.T) {
	t.Parallel()
	k := counts{}
	dice := rand.New(rand.NewPCG(12, 5))
	for range 4000 {
		lines := randomTexts(dice, dice.IntN(20))
		b, e := book.Write(lines)
		if e != api.OK || string(b) != fileOf(lines...) {
			t.Fatalf("Write of %q: %q, %v", lines, b, e)
		}
		spoilt := spoil(dice, string(b))
		want, most := recovered(spoilt)
		if l, n := book.Recover([]byte(spoilt)); !slices.Equal(l, want) || n != most {
			t.Fatalf("Recover of %q: %q, %d", spoilt, l, n)
		}
		switch {
		case most == len(spoilt):
			k["whole"]++
		case most == 0:
			k["nothing"]++
		default:
			k["up to somewhere"]++
		}
	}
	k.areLess(t, 500, "whole", "nothing", "up to somewhere")
}

// P12.6
func TestResumeByHand(t *testing.T) {
	t.Parallel()
	k := counts{}
	dice := rand.New(rand.NewPCG(12, 6))
	for _, lines := range sessions(400) {
		at := dice.IntN(len(lines) + 1)
		if dice.IntN(3) == 0 {
			at = 0
		}
		ahead, more := lines[:at], lines[at:]
		if dice.IntN(3) == 0 {
			ahead, more = lines, []string{lineOf("lot", 80, 4, 4), "run", lineOf("lot", 81, 4, 4), lineOf("lot", 80, 4, 4), lineOf("lot", 82, 4, 4)}[:dice.IntN(6)]
		}
		b := fileOf(ahead...)
		if dice.IntN(2) == 0 {
			b = spoil(dice, b)
		}
		want, f := resumed(b, more)
		got, e := book.Resume([]byte(b), more)
		if string(got) != want || e != f {
			t.Fatalf("Resume of %q and %q: %q, %v", b, more, got, e)
		}
		read, _ := recovered(b)
		_, errors := hand{}.doAll(read)
		k["of a file with refused lines"] += min(1, len(slices.DeleteFunc(errors, func(e api.Errno) bool { return e == api.OK })))
		k[fmt.Sprint("error ", int(e))]++
		k["of nothing"] += max(0, 1-len(read))
	}
	k.areLess(t, 20, "of a file with refused lines", "error 0", "error 3", "of nothing")
}

// between returns a number from the first to the last one.
func between(dice *rand.Rand, first, last int) int { return first + dice.IntN(last-first+1) }

// randomTexts returns texts with any bytes, some of which look like records.
func randomTexts(dice *rand.Rand, number int) []string {
	most := []int{0, 3, 12, 40, 200}[dice.IntN(5)]
	var out []string
	for range number {
		s := make([]byte, dice.IntN(most+1))
		for k := range s {
			s[k] = byte(dice.IntN(256))
		}
		if dice.IntN(5) == 0 {
			s = []byte(recordOf(len(out), string(s[:min(len(s), 180)])))
		}
		if dice.IntN(20) == 0 {
			s = slices.Repeat([]byte{byte(255 - dice.IntN(2))}, between(dice, 150, 200))
		}
		out = append(out, string(s))
	}
	return out
}

// spoil returns the bytes of a file after something has happened to them, or nothing.
func spoil(dice *rand.Rand, b string) string {
	lines, _ := recovered(b)
	at := dice.IntN(len(b) + 1)
	rest := b[min(at+1, len(b)):]
	switch dice.IntN(8) {
	case 0:
		return b[:at]
	case 1:
		return b[:at] + string([]byte{byte(dice.IntN(256))}) + rest
	case 2:
		return b[:at] + string([]byte{byte(dice.IntN(256))}) + b[at:]
	case 3:
		return b[:at] + rest
	case 4:
		return b + recordOf(len(lines), strings.Repeat("x", between(dice, 195, 205)))
	case 5:
		dice.Shuffle(len(lines), func(i, j int) { lines[i], lines[j] = lines[j], lines[i] })
		out := ""
		for i, s := range lines {
			out += recordOf(i+dice.IntN(3)/2, s)
		}
		return out
	case 6:
		return fileOf(append(lines, randomTexts(dice, between(dice, 20, 60))...)...)
	}
	return b
}

// weights are how often the words come in a session.
type weights map[string]int

func (w weights) pick(dice *rand.Rand) string {
	words := slices.Sorted(maps.Keys(w))
	sum := 0
	for _, word := range words {
		sum += w[word]
	}
	at := dice.IntN(sum)
	for _, word := range words {
		if at -= w[word]; at < 0 {
			return word
		}
	}
	panic("no word")
}

// moods are kinds of sessions.
func moods() []weights {
	return []weights{
		{"cert": 6, "bad": 2, "lot": 3, "test": 16, "pass": 4, "run": 1, "junk": 1},
		{"cert": 8, "bad": 5, "lot": 1, "test": 24, "pass": 1, "junk": 1},
		{"cert": 9, "bad": 3, "lot": 2, "test": 24, "pass": 10},
		{"cert": 9, "bad": 1, "lot": 3, "test": 24, "pass": 10},
		{"cert": 20, "bad": 1, "test": 1, "lot": 1},
		{"run": 5, "lot": 1, "junk": 1},
		{"cert": 3, "bad": 1, "lot": 1, "test": 3, "pass": 1, "run": 1, "junk": 3},
	}
}

// allSessions are of up to 50 lines, most of which could be accepted. They are made once, as it takes long.
var allSessions = sync.OnceValue(func() [][]string {
	dice := rand.New(rand.NewPCG(12, 0))
	var all [][]string
	for range 400 {
		mood := moods()[dice.IntN(len(moods()))]
		many := between(dice, 0, 50)
		if dice.IntN(3) == 0 {
			many = 50
		}
		if mood["cert"] == 0 { // it takes long to find out that runs have no plan
			many = min(many, 12)
		}
		var h hand
		var lines []string
		for range many {
			line := randomLine(dice, h, mood.pick(dice))
			lines = append(lines, line)
			h, _ = h.do(line)
		}
		all = append(all, lines)
	}
	return all
})

// sessions returns so many of them, spread over all.
func sessions(number int) [][]string {
	var some [][]string
	for i := range number {
		some = append(some, slices.Clip(allSessions()[i*400/number]))
	}
	return some
}

// usually returns the one number, and the other one now and then.
func usually(dice *rand.Rand, one, other int) int {
	if dice.IntN(25) == 0 {
		return other
	}
	return one
}

func lineOf(word string, numbers ...int) string {
	for _, n := range numbers {
		word += " " + strconv.Itoa(n)
	}
	return word
}

func randomLine(dice *rand.Rand, h hand, word string) string {
	lot := usually(dice, between(dice, 1, 3), between(dice, -1, 110))
	if len(h.Lots) > 0 && dice.IntN(10) > 0 {
		lot = h.Lots[dice.IntN(len(h.Lots))].Number
	}
	switch word {
	case "cert":
		return randomCert(dice, h)
	case "bad":
		number := between(dice, 0, 60)
		if len(h.Certs) > 0 && dice.IntN(6) > 0 {
			number = h.Certs[dice.IntN(len(h.Certs))].Number
		}
		for _, c := range h.Certs {
			if dice.IntN(3) == 0 && len(h.withdrawn(c.Number)) > 0 {
				number = c.Number
			}
		}
		return lineOf("bad", number)
	case "lot":
		return lineOf("lot", usually(dice, between(dice, 1, 4), between(dice, -1, 110)), usually(dice, between(dice, 4, 7), between(dice, 0, 40)), usually(dice, 500, between(dice, -500, 1500)))
	case "test":
		item, day := usually(dice, between(dice, 2, 5), between(dice, -1, 8)), usually(dice, between(dice, 0, 60), between(dice, -9, 1100))
		if len(h.Certs) > 0 && dice.IntN(8) > 0 {
			c := h.Certs[dice.IntN(len(h.Certs))]
			item, day = c.Item, c.Day+dice.IntN(12)
		}
		return lineOf("test", lot, item, day, usually(dice, between(dice, 490, 540), between(dice, -500, 2500)))
	case "pass":
		for _, l := range h.Lots {
			if !l.Passed && h.verdict(l.Number) == plan.Accepted && dice.IntN(3) > 0 {
				lot = l.Number
			}
		}
		return lineOf("pass", lot)
	case "run":
		return lineOf("run", usually(dice, between(dice, 1, 16), between(dice, -1, 42)), usually(dice, between(dice, 0, 15), between(dice, -1, 42)), usually(dice, between(dice, 1, 3), between(dice, -1, 5)))
	}
	return junk(dice, randomLine(dice, h, moods()[0].pick(dice)))
}

func randomCert(dice *rand.Rand, h hand) string {
	c := chain.Cert{Number: 1, Day: dice.IntN(10)}
	for _, x := range h.Certs {
		c.Number, c.Day = max(c.Number, x.Number+1), max(c.Day, x.Day+dice.IntN(4))
	}
	c.Number, c.Day = usually(dice, c.Number+dice.IntN(2), between(dice, -1, 1001)), usually(dice, c.Day, between(dice, -1, 40))
	c.Item, c.By = usually(dice, between(dice, 2, 5), between(dice, -1, 6)), usually(dice, between(dice, 0, 5), between(dice, -1, 7))
	if dice.IntN(2) == 0 {
		c.By = dice.IntN(2)
	}
	c.Valid = usually(dice, between(dice, 5, 60), between(dice, -1, 1001))
	c.Diff.Lo = usually(dice, between(dice, -4, 0), between(dice, -40, 40))
	c.Diff.Hi = usually(dice, c.Diff.Lo+between(dice, 2, 9), between(dice, -40, 40))
	return lineOf("cert", c.Number, c.Item, c.By, c.Day, c.Valid, c.Diff.Lo, c.Diff.Hi)
}

// junk returns a line with a byte more, less, or for another one.
func junk(dice *rand.Rand, line string) string {
	at := dice.IntN(len(line))
	some := string("0123456789-+ \n.xcrt"[dice.IntN(19)])
	switch dice.IntN(4) {
	case 0:
		return line[:at] + line[at+1:]
	case 1:
		return line[:at] + some + line[at+1:]
	case 2:
		return line + some
	}
	return line[:at] + some + line[at:]
}
