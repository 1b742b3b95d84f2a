package book_test

import (
	"fmt"
	"math/rand/v2"
	"regexp"
	"slices"
	"strconv"
	"strings"
	"testing"

	"tensile/api"
	"tensile/book"
	"tensile/chain"
	"tensile/queue"
)

// accepted returns the lines that are.
func accepted(t *testing.T, lines []string) []string {
	t.Helper()
	_, errors := playOf(t, lines)
	var all []string
	for i, line := range lines {
		if errors[i] == api.OK {
			all = append(all, line)
		}
	}
	return all
}

// about is what a report says of a lot.
type about struct {
	tests            int
	verdict          string
	passed, recalled bool
}

// readReport returns what a report says of the lots, and when the runs end.
func readReport(t *testing.T, text string) (lots map[int]about, end int) {
	t.Helper()
	lots = map[int]about{}
	number := func(text string) int {
		n, e := strconv.Atoi(text)
		if e != nil {
			t.Fatalf("%q is no number", text)
		}
		return n
	}
	for _, x := range regexp.MustCompile(`(?m)^lot (\d+) tests (\d+) (accepted|rejected|open)( passed)?( recalled)?$`).FindAllStringSubmatch(text, -1) {
		lots[number(x[1])] = about{number(x[2]), x[3], x[4] != "", x[5] != ""}
	}
	found := regexp.MustCompile(`\nend (\d+)\n$`).FindStringSubmatch(text)
	if found == nil || strings.Count(text, "\n") != len(lots)+2 {
		t.Fatalf("the report is none: %q", text)
	}
	return lots, number(found[1])
}

func reported(t *testing.T, lines []string) (map[int]about, int) {
	t.Helper()
	return readReport(t, reportOf(t, lines))
}

// P12.7
func TestAgain(t *testing.T) {
	t.Parallel()
	k := counts{}
	dice := rand.New(rand.NewPCG(12, 70))
	for _, lines := range sessions(150) {
		s, errors := playOf(t, lines)
		good := accepted(t, lines)
		again, none := playOf(t, good)
		if !areSame(s, again) || !slices.Equal(none, make([]api.Errno, len(good))) || reportOf(t, lines) != reportOf(t, good) {
			t.Fatalf("Play of the accepted lines of %q: %v, %v", lines, again, none)
		}
		if len(lines) == 0 {
			continue
		}
		at := dice.IntN(len(lines))
		before, _ := playOf(t, lines[:at])
		behind, part := playOf(t, lines[:at+1])
		if !slices.Equal(part, errors[:at+1]) || areSame(before, behind) != (errors[at] != api.OK) {
			t.Fatalf("Play of %q up to %d: %v, %v", lines, at, behind, part)
		}
		k[fmt.Sprint("refused ", errors[at] != api.OK)]++
	}
	k.areLess(t, 40, "refused true", "refused false")
}

// bookOf returns the house's book with the certificates of a state that are not bad.
func bookOf(s book.State) chain.Book {
	return hand{s}.withoutBad()
}

// P12.8
func TestEveryLink(t *testing.T) {
	t.Parallel()
	k := counts{}
	dice := rand.New(rand.NewPCG(12, 80))
	for _, lines := range sessions(400) {
		s, errors := playOf(t, lines)
		if len(s.Tests) == 0 {
			continue
		}
		// One of the tests, and the line by which it is there.
		which := dice.IntN(len(s.Tests))
		at := -1
		for left := which; left >= 0; {
			at++
			if word, _, _ := formOf(lines[at]); word == "test" && errors[at] == api.OK {
				left--
			}
		}
		x := s.Tests[which]
		before, _ := playOf(t, lines[:at])
		best, e := chain.Best(bookOf(before), x.Item, x.Day)
		if e != api.OK || !chain.ProveChain(bookOf(before), x.Item, x.Day, best) {
			t.Fatalf("the test %v of %q goes back to no standard: %v", x, lines[:at], e)
		}
		lots, _ := reported(t, lines[:at])
		behind, _ := reported(t, lines[:at+1])
		if behind[x.Lot].tests != lots[x.Lot].tests+1 {
			t.Fatalf("the test %v of %q does not stand", x, lines[:at+1])
		}
		k["links "+strconv.Itoa(min(len(best), 3))]++
	}
	k.areLess(t, 5, "links 1", "links 2")
}

// P12.9
func TestJustWhatHungOnIt(t *testing.T) {
	t.Parallel()
	k := counts{}
	for _, lines := range sessions(150) {
		s, _ := playOf(t, lines)
		lines = accepted(t, lines)
		if len(lines) == 50 {
			lines = lines[:49]
			s, _ = playOf(t, lines)
		}
		lots, _ := reported(t, lines)
		for _, c := range s.Certs[:min(3, len(s.Certs))] {
			told, e := book.Withdrawn(lines, c.Number)
			if e != api.OK {
				t.Fatalf("Withdrawn of %q, %d: %v", lines, c.Number, e)
			}
			all := append(slices.Clone(lines), lineOf("bad", c.Number))
			behind, errors := playOf(t, all)
			if slices.Contains(s.Bad, c.Number) {
				if len(told) != 0 || errors[len(lines)] != api.ErrTwice {
					t.Fatalf("Withdrawn of %q, of the bad one %d: %v, %v", lines, c.Number, told, errors)
				}
				continue
			}
			if errors[len(lines)] != api.OK {
				t.Fatalf("Play of %q: %v", all, errors)
			}
			fell := map[int]int{}
			for i, x := range s.Tests {
				stood, stands := (hand{s}).stands(x), hand{behind}.stands(x)
				if slices.Contains(told, i) != (stood && !stands) || stands && !stood {
					t.Fatalf("Withdrawn of %q, %d: %v; the test %d", lines, c.Number, told, i)
				}
				if stood && !stands {
					fell[x.Lot]++
					k["fell"]++
				}
				if stands {
					k["stands"]++
				}
			}
			for lot, x := range lots {
				now, _ := reported(t, all)
				if now[lot].tests != x.tests-fell[lot] {
					t.Fatalf("Report of %q: %v, where %v fell", all, now, fell)
				}
			}
		}
	}
	k.areLess(t, 50, "fell", "stands")
}

// P12.10
func TestSoldOnce(t *testing.T) {
	t.Parallel()
	k := counts{}
	for _, lines := range sessions(400) {
		s, errors := playOf(t, lines)
		recalled, e := book.Recalled(lines)
		if e != api.OK || !slices.IsSorted(recalled) {
			t.Fatalf("Recalled of %q: %v, %v", lines, recalled, e)
		}
		for _, l := range s.Lots {
			var passes, changes []int
			for i, line := range lines {
				word, n, _ := formOf(line)
				if errors[i] == api.OK && word == "pass" && n[0] == l.Number {
					passes = append(passes, i)
				}
				if errors[i] == api.OK && (word == "cert" || word == "bad") {
					changes = append(changes, i)
				}
			}
			if !l.Passed {
				if len(passes) > 0 || slices.Contains(recalled, l.Number) {
					t.Fatalf("the lot %d of %q has not passed", l.Number, lines)
				}
				continue
			}
			k["passed"]++
			if len(passes) != 1 {
				t.Fatalf("the lot %d of %q passes by the lines %v", l.Number, lines, passes)
			}
			before, _ := reported(t, lines[:passes[0]])
			behind, _ := reported(t, lines[:passes[0]+1])
			if before[l.Number].verdict != "accepted" || before[l.Number].passed || !behind[l.Number].passed || behind[l.Number].recalled {
				t.Fatalf("the lot %d of %q: %v, %v", l.Number, lines, before, behind)
			}
			if slices.Contains(recalled, l.Number) {
				k["recalled"]++
				if len(changes) == 0 || changes[len(changes)-1] < passes[0] {
					t.Fatalf("the lot %d of %q is recalled without a reason", l.Number, lines)
				}
			}
		}
	}
	k.areLess(t, 20, "passed", "recalled")
}

// P12.11
func TestThePlan(t *testing.T) {
	t.Parallel()
	k := counts{}
	for _, lines := range sessions(400) {
		lines = accepted(t, lines)
		lines = lines[:min(len(lines), 49)]
		s, _ := playOf(t, lines)
		lots, _ := reported(t, lines)
		place := -1
		for i, c := range s.Certs {
			if (hand{s}).stands(book.Test{Item: c.Item, Day: c.Day}) {
				place = i
			}
		}
		for _, l := range s.Lots {
			x := lots[l.Number]
			// As long as no test fell, no lot has more tests than its plan asks for.
			if len(s.Bad) == 0 && (x.tests > 4 || x.verdict == "open" && x.tests > 3) {
				t.Fatalf("Report of %q: %v", lines, lots)
			}
			if place < 0 {
				continue
			}
			one := lineOf("test", l.Number, s.Certs[place].Item, s.Certs[place].Day, 500)
			_, errors := playOf(t, append(slices.Clone(lines), one))
			want := api.OK
			switch {
			case l.Passed || x.verdict != "open":
				want = api.ErrState
			case len(hand{s}.testsOf(l.Number)) == l.Pieces:
				want = api.ErrLimit
			}
			if errors[len(lines)] != want {
				t.Fatalf("Play of %q, and %q: %v", lines, one, errors[len(lines)])
			}
			k["error "+strconv.Itoa(int(want))]++
		}
	}
	k.areLess(t, 5, "error 0", "error 8", "error 3")
}

// P12.12
func TestInTime(t *testing.T) {
	t.Parallel()
	k := counts{}
	dice := rand.New(rand.NewPCG(12, 12))
	for range 50 {
		var lines []string
		last := 0
		for range between(dice, 1, 8) {
			lines = append(lines, randomLine(dice, hand{}, "run"))
			s, errors := playOf(t, lines)
			plan, earliest, e := queue.Earliest(houseQueue(s.Runs))
			_, end := reported(t, lines)
			if e != api.OK || !queue.ProvePlan(houseQueue(s.Runs), plan, end) || end != earliest || end < last {
				t.Fatalf("Report of %q: the end %d, before it %d; %v", lines, end, last, e)
			}
			last = end
			k["error "+strconv.Itoa(int(errors[len(errors)-1]))]++
		}
	}
	k.areLess(t, 5, "error 0", "error 9", "error 3", "error 2")
}

// ends returns where the records of lines end in their file, from 0 on.
func ends(lines []string) []int {
	all := []int{0}
	for _, s := range lines {
		all = append(all, all[len(all)-1]+16+len(s))
	}
	return all
}

func isRead(t *testing.T, b string, lines []string) {
	t.Helper()
	if l, n := book.Recover([]byte(b)); !slices.Equal(l, lines) || n != ends(lines)[len(lines)] {
		t.Fatalf("Recover of %q: %q, %d", b, l, n)
	}
}

// P12.13
func TestTheFile(t *testing.T) {
	t.Parallel()
	dice := rand.New(rand.NewPCG(12, 13))
	for range 200 {
		lines := randomTexts(dice, between(dice, 0, 12))
		bytes, e := book.Write(lines)
		if e != api.OK {
			t.Fatalf("Write of %q: %v", lines, e)
		}
		file, end := string(bytes), ends(lines)
		isRead(t, file, lines)
		whole := 0
		for n := range len(file) + 1 {
			if whole < len(lines) && end[whole+1] <= n {
				whole++
			}
			isRead(t, file[:n], lines[:whole])
		}
		// A record at the place of another one, even if they are of the same line.
		for i := range lines {
			for j := range lines {
				moved := file[:end[i]] + file[end[j]:end[j+1]] + file[end[i+1]:]
				if i != j {
					isRead(t, moved, lines[:i])
				}
			}
			isRead(t, file[:end[i]]+file[end[i+1]:], lines[:i])
		}
	}
	var same []string
	for range 50 {
		same = append(same, "lot 1 4 500")
	}
	for i := range same {
		for j := range same {
			if i != j {
				isRead(t, fileOf(same[:i]...)+recordOf(j, same[j]), same[:i])
			}
		}
	}
}

// P7, P8: if a byte is another one, just what is before its record is read.
func TestOneByte(t *testing.T) {
	t.Parallel()
	spoiltAt := func(lines []string, at int, by byte) {
		b := []byte(fileOf(lines...))
		b[at] += by
		whole := 0
		for ends(lines)[whole+1] <= at {
			whole++
		}
		isRead(t, string(b), lines[:whole])
	}
	for _, lines := range [][]string{{"pass 3", "", "lot 7 8 500"}, {"\xff\x00", "{}"}} {
		for at := range len(fileOf(lines...)) {
			for by := 1; by < 256; by++ {
				spoiltAt(lines, at, byte(by))
			}
		}
	}
	dice := rand.New(rand.NewPCG(12, 14))
	for range 5000 {
		lines := randomTexts(dice, between(dice, 1, 10))
		spoiltAt(lines, dice.IntN(len(fileOf(lines...))), byte(between(dice, 1, 255)))
	}
}

// P12.14
func TestAsIfNothingHadBeen(t *testing.T) {
	t.Parallel()
	dice := rand.New(rand.NewPCG(12, 15))
	resume := func(b string, more []string) string {
		got, e := book.Resume([]byte(b), more)
		if e != api.OK {
			t.Fatalf("Resume of %q and %q: %v", b, more, e)
		}
		return string(got)
	}
	for _, lines := range sessions(150) {
		good := accepted(t, lines)
		file := fileOf(good...)
		if resume("", lines) != file {
			t.Fatalf("Resume of nothing, and %q", lines)
		}
		for range 5 {
			n := dice.IntN(len(file) + 1)
			read, _ := book.Recover([]byte(file[:n]))
			if got := resume(file[:n], good[len(read):]); got != file {
				t.Fatalf("Resume of %q and %q: %q", file[:n], good[len(read):], got)
			}
		}
	}
	// Anywhere at all.
	file := fileOf(of(busy)...)
	for n := range len(file) + 1 {
		read, _ := book.Recover([]byte(file[:n]))
		if got := resume(file[:n], of(busy)[len(read):]); got != file {
			t.Fatalf("Resume of %q: %q", file[:n], got)
		}
	}
}

// P6: certificates in any order tell the same.
func TestAnyOrder(t *testing.T) {
	t.Parallel()
	k := counts{}
	dice := rand.New(rand.NewPCG(12, 16))
	for _, lines := range sessions(150) {
		var certs, others []string
		for _, line := range accepted(t, lines) {
			switch word, _, _ := formOf(line); word {
			case "cert":
				certs = append(certs, line)
			case "bad", "run":
			default:
				others = append(others, line)
			}
		}
		certs = accepted(t, certs) // some may contradict those that were bad before
		text := reportOf(t, slices.Concat(certs, others))
		for range 3 {
			dice.Shuffle(len(certs), func(i, j int) { certs[i], certs[j] = certs[j], certs[i] })
			if len(accepted(t, certs)) != len(certs) {
				t.Fatalf("Play of %q: some are refused", certs)
			}
			if got := reportOf(t, slices.Concat(certs, others)); got != text {
				t.Fatalf("Report of %q and %q: %q, not %q", certs, others, got, text)
			}
		}
		k["some"] += min(1, len(certs)/2*len(others))
	}
	k.areLess(t, 50, "some")
}

// P1: any bytes, and any lines.
func TestAnything(t *testing.T) {
	t.Parallel()
	dice := rand.New(rand.NewPCG(12, 17))
	for range 2000 {
		lines := randomTexts(dice, between(dice, 0, 60))
		for i := range lines {
			if dice.IntN(3) == 0 {
				lines[i] += strings.Repeat(" 9", dice.IntN(120))
			}
		}
		s, errors, e := book.Play(lines)
		long := func(s string) bool { return len(s) > 200 }
		if (e == api.ErrLimit) != (len(lines) > 50 || slices.ContainsFunc(lines, long)) || !areSame(s, book.State{}) {
			t.Fatalf("Play of %q: %v, %v, %v", lines, s, errors, e)
		}
		for _, x := range errors {
			if x != api.ErrForm {
				t.Fatalf("Play of %q: %v", lines, errors)
			}
		}
		if file, f := book.Resume([]byte(strings.Join(lines, "")), lines); f != e || len(file) > 0 && !strings.HasPrefix(strings.Join(lines, ""), string(file)) {
			t.Fatalf("Resume of %q: %q, %v", lines, file, f)
		}
	}
}
