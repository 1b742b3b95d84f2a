package book_test

import (
	"fmt"
	"math"
	"slices"
	"strings"
	"testing"

	"tensile/api"
	"tensile/book"
	"tensile/chain"
	"tensile/queue"
)

// of returns the lines of a text, between which there is a semicolon and a blank.
func of(text string) []string {
	if text == "" {
		return nil
	}
	return strings.Split(text, "; ")
}

func playOf(t *testing.T, lines []string) (book.State, []api.Errno) {
	t.Helper()
	s, errors, e := book.Play(lines)
	if e != api.OK || len(errors) != len(lines) {
		t.Fatalf("Play of %q: %v, %v, %v", lines, s, errors, e)
	}
	return s, errors
}

// goodOf returns the state behind lines that should all be accepted.
func goodOf(t *testing.T, lines []string) book.State {
	t.Helper()
	s, errors := playOf(t, lines)
	for i, e := range errors {
		if e != api.OK {
			t.Errorf("Play of %q: %q is refused: %v", lines, lines[i], e)
		}
	}
	return s
}

func reportOf(t *testing.T, lines []string) string {
	t.Helper()
	text, e := book.Report(lines)
	if e != api.OK {
		t.Fatalf("Report of %q: %v", lines, e)
	}
	return text
}

// lineOfLot returns what a report says of a lot.
func lineOfLot(t *testing.T, lines []string, lot int) string {
	t.Helper()
	for line := range strings.SplitSeq(reportOf(t, lines), "\n") {
		if rest, is := strings.CutPrefix(line, fmt.Sprintf("lot %d ", lot)); is {
			return rest
		}
	}
	return "no lot"
}

const example = "cert 1 2 0 10 100 -1 1; lot 7 8 500; test 7 2 20 511; test 7 2 20 510"

// P12.1 to P12.5: the chapter's examples.
func TestExamples(t *testing.T) {
	s, errors := playOf(t, of(example))
	want := book.State{
		Certs: []chain.Cert{{Number: 1, Item: 2, By: 0, Day: 10, Valid: 100, Diff: chain.Range{Lo: -1, Hi: 1}}},
		Lots:  []book.Lot{{Number: 7, Pieces: 8, Limit: 500}},
		Tests: []book.Test{{Lot: 7, Item: 2, Day: 20, Reading: 511}, {Lot: 7, Item: 2, Day: 20, Reading: 510}},
	}
	if !areSame(s, want) || !slices.Equal(errors, make([]api.Errno, 4)) {
		t.Errorf("Play: %v, %v", s, errors)
	}
	s, errors = playOf(t, of(example+"; test 7 3 20 600; bad 1; test 7 2 20 600"))
	want.Bad = []int{1}
	if !areSame(s, want) || !slices.Equal(errors[4:], []api.Errno{api.ErrLink, api.OK, api.ErrLink}) {
		t.Errorf("Play: %v, %v", s, errors)
	}
	if l, e := book.Withdrawn(of(example), 1); !slices.Equal(l, []int{0, 1}) || e != api.OK {
		t.Errorf("Withdrawn: %v, %v", l, e)
	}
	if l, e := book.Withdrawn(of(example), 2); len(l) != 0 || e != api.ErrNone {
		t.Errorf("Withdrawn of none: %v, %v", l, e)
	}
	if text := reportOf(t, of(example)); text != "lot 7 tests 2 open\ncerts 1 held 1 bad 0\nend 0\n" {
		t.Errorf("Report: %q", text)
	}
	if b, e := book.Write([]string{"a"}); string(b) != "{001:998:00109}a\n" || e != api.OK {
		t.Errorf("Write: %q, %v", b, e)
	}
	// The one of DOC.md; and nothing at all.
	if _, errors := playOf(t, of("cert 1 2 0 10 100 -1 1; lot 7 8 500; test 7 2 20 511; test 7 3 20 600")); !slices.Equal(errors, []api.Errno{0, 0, 0, api.ErrLink}) {
		t.Errorf("Play: %v", errors)
	}
	for _, none := range [][]string{nil, {}} {
		if s, errors := playOf(t, none); !areSame(s, book.State{}) || len(errors) != 0 {
			t.Errorf("Play of nothing: %v, %v", s, errors)
		}
	}
}

// busy has a lot 3 that is rejected by all its pieces, a lot 5 without tests, a lot 7 that has passed, and a lot 8 that is full and open, as tests of it fell; the certificate 30 is bad.
const busy = "cert 10 2 0 10 100 -1 1; cert 20 4 2 20 50 0 0; cert 30 5 1 25 50 0 0; lot 7 8 500; lot 3 4 500; lot 8 4 500; lot 5 4 500; " +
	"test 7 2 20 511; test 7 4 30 512; pass 7; test 3 4 30 600; test 3 4 30 0; test 3 4 30 0; test 3 4 30 600; " +
	"test 8 5 30 600; test 8 2 30 0; test 8 5 30 0; test 8 2 30 600; bad 30; run 5 0 3; run 20 8 1"

type refused struct {
	line string
	e    api.Errno
}

func areRefused(t *testing.T, ahead string, l []refused) {
	t.Helper()
	before := goodOf(t, of(ahead))
	for _, x := range l {
		s, errors := playOf(t, append(of(ahead), x.line))
		if errors[len(errors)-1] != x.e {
			t.Errorf("%q: %v", x.line, errors[len(errors)-1])
		}
		if areSame(s, before) != (x.e != api.OK) {
			t.Errorf("%q, the state: %v", x.line, s)
		}
	}
}

// P12.1
func TestBusy(t *testing.T) {
	s := goodOf(t, of(busy))
	want := book.State{
		Certs: []chain.Cert{{Number: 10, Item: 2, Day: 10, Valid: 100, Diff: chain.Range{Lo: -1, Hi: 1}}, {Number: 20, Item: 4, By: 2, Day: 20, Valid: 50}, {Number: 30, Item: 5, By: 1, Day: 25, Valid: 50}},
		Bad:   []int{30},
		Lots:  []book.Lot{{Number: 3, Pieces: 4, Limit: 500}, {Number: 5, Pieces: 4, Limit: 500}, {Number: 7, Pieces: 8, Limit: 500, Passed: true}, {Number: 8, Pieces: 4, Limit: 500}},
		Tests: []book.Test{
			{Lot: 7, Item: 2, Day: 20, Reading: 511}, {Lot: 7, Item: 4, Day: 30, Reading: 512},
			{Lot: 3, Item: 4, Day: 30, Reading: 600}, {Lot: 3, Item: 4, Day: 30, Reading: 0}, {Lot: 3, Item: 4, Day: 30, Reading: 0}, {Lot: 3, Item: 4, Day: 30, Reading: 600},
			{Lot: 8, Item: 5, Day: 30, Reading: 600}, {Lot: 8, Item: 2, Day: 30, Reading: 0}, {Lot: 8, Item: 5, Day: 30, Reading: 0}, {Lot: 8, Item: 2, Day: 30, Reading: 600},
		},
		Runs: []queue.Run{{Hours: 5, On: []bool{true, true}}, {Hours: 20, Ready: 8, On: []bool{true, false}}},
	}
	if !areSame(s, want) {
		t.Errorf("Play: %v", s)
	}
	text := "lot 3 tests 4 rejected\nlot 5 tests 0 open\nlot 7 tests 2 accepted passed\nlot 8 tests 2 open\ncerts 3 held 2 bad 1\nend 32\n"
	if got := reportOf(t, of(busy)); got != text {
		t.Errorf("Report: %q", got)
	}
	want.Bad = []int{10, 20, 30}
	if s := goodOf(t, of(busy+"; bad 10; bad 20")); !areSame(s, want) {
		t.Errorf("Play, with all certificates bad: %v", s)
	}
}

// P12.1: what has the form of no word.
func TestForms(t *testing.T) {
	var all []refused
	for _, line := range []string{
		"", " ", "\n", "x", "lo", "lots", "lot", "lot ", "lot 9", "lot 9 4", "lot 9 4 ", "lot 9 4 500 ", "lot 9 4 500 1", " lot 9 4 500", "lot  9 4 500", "lot 9  4 500", "lot 9 4  500", "lot\t9 4 500", "lot,9,4,500", "lot9 4 500", "lot 94 500",
		"Lot 9 4 500", "LOT 9 4 500", "lot 9 4 500\n", "lot 9 4 500\r", "lot 9 4 500\x00", "\x00lot 9 4 500", "lot 9 4 5 0 0", "lot 9 4 +500", "lot +9 4 500", "lot 09 4 500", "lot 9 04 500", "lot 9 4 0500", "lot 9 4 00", "lot 9 4 -0", "lot 9 4 -00", "lot 9 4 -05",
		"lot 9 4 --5", "lot 9 4 -", "lot 9 4 - 5", "lot 9 4 5-", "lot 9 4 5.0", "lot 9 4 5e2", "lot 9 4 0x5", "lot 9 4 5_0", "lot 9 4 a", "lot a 4 500", "lot 9 4 \xb2", "lot 9 4 \xff", "lot 9 4 \u0665", "lot 9 4\u00a0500",
		"lot 9 4 1000000000", "lot 9 4 -1000000000", "lot 9 4 0000000001", "lot 9 4 99999999999999999999", "lot 9 4 18446744073709552116", "lot 9 4 -18446744073709551116", "lot 1000000000 4 500",
		"cert", "cert 40 2 0 60 100 -1", "cert 40 2 0 60 100 -1 1 1", "cert 40 2 0 60 100 -01 1", "cert 40 2 0 60 100 -1..1", "bad", "bad 10 20", "bad 010", "bad -", "test 5 2 30", "test 5 2 30 500 1", "pass", "pass 7 7", "pass 1000000000", "run 5 0", "run 5 0 3 1", "end 32", "lot 9 4 500; lot 9 4 500",
		strings.Repeat("9", 200), strings.Repeat(" ", 200), "lot " + strings.Repeat("0", 100), "pass " + strings.Repeat("9", 195),
	} {
		all = append(all, refused{line, api.ErrForm})
	}
	// These have a form: nine digits are not too many, nor is a minus before them.
	all = append(all, refused{"lot 999999999 4 500", api.ErrRange}, refused{"lot 9 -999999999 500", api.ErrRange}, refused{"lot -9 4 500", api.ErrRange}, refused{"pass 100000000", api.ErrNone}, refused{"pass 999999999", api.ErrNone}, refused{"pass -999999999", api.ErrNone}, refused{"pass -1", api.ErrNone}, refused{"pass 0", api.ErrNone},
		refused{"bad -10", api.ErrNone}, refused{"cert 999999999 -999999999 999999999 -999999999 999999999 -999999999 999999999", api.ErrArg}, refused{"lot 9 4 500", api.OK}, refused{"lot 9 4 0", api.OK})
	areRefused(t, busy, all)
}

// P12.1: a certificate.
func TestCert(t *testing.T) {
	var all []refused
	for _, line := range []string{
		"0 2 0 60 100 -1 1", "1000 2 0 60 100 -1 1", "-40 2 0 60 100 -1 1", "40 0 1 60 100 -1 1", "40 1 0 60 100 -1 1", "40 6 0 60 100 -1 1", "40 -1 0 60 100 -1 1", "40 2 2 60 100 -1 1", "40 2 6 60 100 -1 1", "40 2 -1 60 100 -1 1",
		"40 2 0 -1 100 -1 1", "40 2 0 1001 100 -1 1", "40 2 0 60 -1 -1 1", "40 2 0 60 1001 -1 1", "40 2 0 60 100 1 -1", "40 2 0 60 100 -100001 1", "40 2 0 60 100 -1 100001", "40 2 0 60 100 1 0",
		// What is not valid comes before what contradicts by number, and that before what contradicts otherwise.
		"40 2 0 5 100 1 0", "5 2 0 60 1001 0 0",
	} {
		all = append(all, refused{"cert " + line, api.ErrArg})
	}
	for _, line := range []string{"10 2 0 10 100 -1 1", "10 9 9 9999 9999 9 0", "30 5 1 25 50 0 0", "30 5 1 60 50 0 0", "40 2 0 24 100 0 0", "40 2 0 19 100 500 500", "15 2 0 9 100 0 0", "15 3 0 21 100 0 0", "15 3 0 60 100 0 0", "29 5 0 26 9 0 0", "31 5 0 24 9 0 0"} {
		all = append(all, refused{"cert " + line, api.ErrTwice})
	}
	for _, line := range []string{"40 2 0 60 100 60 61", "40 2 0 60 100 -99 -52", "40 4 0 60 100 12 12", "11 2 0 10 100 2 9", "11 2 0 10 0 2 9", "25 4 1 20 0 -99 -14"} {
		all = append(all, refused{"cert " + line, api.ErrFail})
	}
	for _, line := range []string{"40 2 0 60 100 51 61", "40 2 0 60 100 -99 -51", "40 4 0 60 100 11 12", "40 4 0 71 100 500 600", "999 5 1 1000 1000 -100000 100000", "9 2 0 10 100 1 9", "1 2 1 0 0 -3 -3", "25 4 1 20 0 -99 -13", "31 5 1 25 50 500 500", "40 5 3 60 1 900 900"} {
		all = append(all, refused{"cert " + line, api.OK})
	}
	areRefused(t, busy, all)
}

// P12.1: the certificates that are bad do not make a book contradictory, but are counted, and their Numbers and Days are as those of the others.
func TestCertBesideBadOnes(t *testing.T) {
	many := ""
	for n := range 24 {
		many += fmt.Sprintf("cert %d 2 0 %d 9 -9 9; ", 2*n+2, n)
	}
	areRefused(t, strings.TrimSuffix(many, "; "), []refused{{"cert 50 2 0 30 9 -9 9", api.ErrLimit}, {"cert 50 2 0 30 9 9 -9", api.ErrLimit}, {"cert 4 2 0 30 9 9 -9", api.ErrTwice}, {"bad 50", api.ErrNone}, {"bad 48", api.OK}})
	areRefused(t, many+"bad 2; bad 4; bad 6", []refused{{"cert 50 2 0 30 9 -9 9", api.ErrLimit}, {"cert 50 2 0 30 9 90 90", api.ErrLimit}})
	less := strings.Join(of(many)[:23], "; ")
	areRefused(t, less, []refused{{"cert 50 2 0 30 9 -9 9", api.OK}, {"cert 50 2 0 30 9 9 -9", api.ErrArg}})
	for _, x := range []struct {
		lines string
		e     api.Errno
	}{
		{"cert 1 2 0 10 100 -1 1; cert 2 2 0 10 100 5 6", api.ErrFail},
		{"cert 1 2 0 10 100 -1 1; bad 1; cert 2 2 0 10 100 5 6", api.OK},
		{"cert 1 2 0 10 100 -1 1; cert 2 3 2 10 100 0 0; bad 1; cert 3 3 0 10 100 5 6", api.OK},
		{"cert 1 2 0 10 100 -1 1; cert 2 3 2 10 100 0 0; bad 1; cert 3 2 0 10 100 5 6", api.OK},
		{"cert 2 3 2 10 100 0 0; cert 3 3 0 10 100 5 6; cert 1 2 0 10 100 -1 1", api.ErrFail},
		{"cert 2 3 2 10 100 0 0; cert 3 3 0 10 100 5 6; cert 1 2 0 10 100 -1 5", api.OK},
		{"cert 5 2 0 10 100 -1 1; bad 5; cert 6 2 0 9 100 -1 1", api.ErrTwice},
		{"cert 5 2 0 10 100 -1 1; bad 5; cert 4 2 0 11 100 -1 1", api.ErrTwice},
		{"cert 5 2 0 10 100 -1 1; bad 5; cert 5 2 0 10 100 -1 1", api.ErrTwice},
		{"cert 1 2 0 10 100 0 0; cert 5 2 0 10 100 0 0; bad 5; cert 4 2 0 11 100 90 90", api.ErrTwice},
		{"cert 1 2 0 10 100 0 0; cert 5 2 0 10 100 0 0; bad 5; cert 4 2 0 10 100 90 90", api.ErrFail},
		{"cert 1 2 0 10 100 -1 1; cert 2 2 0 10 100 5 6; bad 2", api.ErrNone},
	} {
		if _, errors := playOf(t, of(x.lines)); errors[len(errors)-1] != x.e {
			t.Errorf("Play of %q: %v", x.lines, errors)
		}
	}
}

// P12.1: what is bad, lots, runs.
func TestRefused(t *testing.T) {
	areRefused(t, busy, []refused{
		{"bad 10", api.OK}, {"bad 20", api.OK}, {"bad 30", api.ErrTwice}, {"bad 11", api.ErrNone}, {"bad 0", api.ErrNone}, {"bad 1000", api.ErrNone},
		{"lot 0 4 500", api.ErrRange}, {"lot 1 4 500", api.OK}, {"lot 99 30 1000", api.OK}, {"lot 100 4 500", api.ErrRange}, {"lot 1 3 500", api.ErrRange}, {"lot 1 31 500", api.ErrRange}, {"lot 1 4 -1", api.ErrRange}, {"lot 1 4 0", api.OK}, {"lot 1 4 1001", api.ErrRange},
		{"lot 7 8 500", api.ErrTwice}, {"lot 3 5 0", api.ErrTwice}, {"lot 7 3 500", api.ErrRange}, {"lot 3 4 1001", api.ErrRange},
		{"run 0 0 3", api.ErrRange}, {"run 1 0 3", api.OK}, {"run 41 0 3", api.ErrRange}, {"run -1 0 3", api.ErrRange}, {"run 1 -1 3", api.ErrRange}, {"run 1 41 3", api.ErrRange}, {"run 1 40 3", api.ErrFail}, {"run 1 39 3", api.OK}, {"run 1 0 0", api.ErrRange}, {"run 1 0 4", api.ErrRange}, {"run 1 0 -1", api.ErrRange},
		{"run 16 0 1", api.OK}, {"run 17 0 1", api.ErrFail}, {"run 40 0 2", api.OK}, {"run 40 0 3", api.OK}, {"run 40 1 3", api.ErrFail}, {"run 1 41 0", api.ErrRange},
	})
	runs := strings.TrimSuffix(strings.Repeat("run 1 0 3; ", 6), "; ")
	areRefused(t, runs, []refused{{"run 1 0 3", api.ErrLimit}, {"run 40 40 1", api.ErrLimit}, {"run 0 0 3", api.ErrRange}, {"run 1 0 4", api.ErrRange}})
	areRefused(t, "", []refused{{"run 36 0 1", api.OK}, {"run 37 0 1", api.ErrFail}, {"run 40 0 1", api.ErrFail}, {"run 40 0 2", api.OK}, {"bad 1", api.ErrNone}, {"pass 1", api.ErrNone}, {"test 1 2 0 0", api.ErrNone}, {"lot 1 4 0", api.OK}})
}

// P12.1: tests and lots that pass.
func TestRefusedTests(t *testing.T) {
	areRefused(t, busy, []refused{
		{"test 5 1 30 500", api.ErrRange}, {"test 5 2 30 500", api.OK}, {"test 5 6 30 500", api.ErrRange}, {"test 5 0 30 500", api.ErrRange}, {"test 5 -2 30 500", api.ErrRange}, {"test 5 2 -1 500", api.ErrRange}, {"test 5 2 1001 500", api.ErrRange}, {"test 5 2 1000 500", api.ErrLink}, {"test 5 2 0 500", api.ErrLink},
		{"test 5 2 30 -1", api.ErrRange}, {"test 5 2 30 0", api.OK}, {"test 5 2 30 2000", api.OK}, {"test 5 2 30 2001", api.ErrRange},
		{"test 9 2 30 500", api.ErrNone}, {"test 0 2 30 500", api.ErrNone}, {"test -5 2 30 500", api.ErrNone}, {"test 100 2 30 500", api.ErrNone}, {"test 9 6 30 500", api.ErrRange}, {"test 9 3 30 500", api.ErrNone},
		{"test 7 2 30 500", api.ErrState}, {"test 3 2 30 500", api.ErrState}, {"test 3 3 30 500", api.ErrState}, {"test 7 3 30 500", api.ErrState}, {"test 7 6 30 500", api.ErrRange}, {"test 3 2 30 2001", api.ErrRange},
		{"test 8 2 30 500", api.ErrLimit}, {"test 8 5 30 500", api.ErrLimit}, {"test 8 3 30 500", api.ErrLimit},
		{"test 5 3 30 500", api.ErrLink}, {"test 5 5 30 500", api.ErrLink}, {"test 5 2 9 500", api.ErrLink}, {"test 5 2 10 500", api.OK}, {"test 5 2 110 500", api.OK}, {"test 5 2 111 500", api.ErrLink}, {"test 5 4 19 500", api.ErrLink}, {"test 5 4 20 500", api.OK}, {"test 5 4 70 500", api.OK}, {"test 5 4 71 500", api.ErrLink},
		{"pass 5", api.ErrState}, {"pass 8", api.ErrState}, {"pass 3", api.ErrSpoil}, {"pass 7", api.ErrTwice}, {"pass 9", api.ErrNone}, {"pass 100", api.ErrNone},
	})
	// A lot that is recalled has passed all the same.
	areRefused(t, busy+"; bad 10", []refused{{"pass 7", api.ErrTwice}, {"test 7 2 30 500", api.ErrState}, {"pass 3", api.ErrState}, {"test 3 2 30 500", api.ErrLimit}, {"test 5 4 30 500", api.ErrLink}})
	// A lot that was decided is open again if a test falls, and has room for another one.
	open := "cert 1 2 0 10 100 0 0; cert 2 4 0 10 100 0 0; lot 1 5 500; test 1 2 10 600; test 1 4 10 600"
	areRefused(t, open, []refused{{"test 1 2 10 600", api.ErrState}, {"pass 1", api.OK}})
	areRefused(t, open+"; bad 2", []refused{{"test 1 2 10 600", api.OK}, {"test 1 4 10 600", api.ErrLink}, {"pass 1", api.ErrState}})
	areRefused(t, open+"; bad 2; test 1 2 10 0", []refused{{"test 1 2 10 600", api.OK}, {"pass 1", api.ErrState}})
	areRefused(t, open+"; bad 2; test 1 2 10 0; test 1 2 10 600; test 1 2 10 600", []refused{{"test 1 2 10 600", api.ErrState}, {"pass 1", api.OK}})
}

// P12.1, P12.11: the plan of a lot, by tests that are good (g), bad (b), or did not stand any more (x).
func TestPlan(t *testing.T) {
	for tests, want := range map[string]string{
		"": "0 open", "g": "1 open", "b": "1 open", "gg": "2 accepted", "bb": "2 rejected", "gb": "2 open", "bg": "2 open", "gbg": "3 open", "gbb": "3 open", "bgg": "3 open", "bgb": "3 open",
		"gbgg": "4 accepted", "bggg": "4 accepted", "gbgb": "4 rejected", "gbbg": "4 rejected", "gbbb": "4 rejected", "bgbg": "4 rejected", "bgbb": "4 rejected", "bggb": "4 rejected",
		"x": "0 open", "xx": "0 open", "xg": "1 open", "xgg": "2 accepted", "gxg": "2 accepted", "bxb": "2 rejected", "bxg": "2 open", "xbxgxgxg": "4 accepted", "xbxgxgxb": "4 rejected",
	} {
		lines := of("cert 1 4 0 10 100 0 0; lot 1 30 500")
		for i, x := range tests {
			fallen := fmt.Sprintf("cert %d 2 0 10 100 0 0; test 1 2 10 500; bad %d", i+2, i+2)
			lines = append(lines, of(map[rune]string{'g': "test 1 4 10 500", 'b': "test 1 4 10 499", 'x': fallen}[x])...)
		}
		if got := lineOfLot(t, lines, 1); got != "tests "+want {
			t.Errorf("the tests %s: %q", tests, got)
		}
	}
}

// P12.2 to P12.4: whether tests stand, and are good, by the certificates as they are.
func TestVerdicts(t *testing.T) {
	start := "cert 1 2 0 10 100 -1 1; cert 2 4 2 20 50 0 0; lot 1 9 500; "
	for _, x := range []struct{ lines, want string }{
		// The span of 2 is -1..1 on 10, and wider by 1 each day; that of 4 is -11..11, and stays so. 1 is -2..2.
		{start + "test 1 2 10 501; test 1 2 12 503", "tests 2 accepted"}, {start + "test 1 2 10 500; test 1 2 12 502", "tests 2 rejected"},
		{start + "test 1 2 110 601; test 1 2 110 601", "tests 2 accepted"}, {start + "test 1 2 110 600; test 1 2 110 600", "tests 2 rejected"},
		{start + "test 1 4 20 511; test 1 4 70 511", "tests 2 accepted"}, {start + "test 1 4 20 510; test 1 4 70 510", "tests 2 rejected"},
		{start + "cert 3 5 1 20 50 4 9; test 1 5 20 498; test 1 5 70 498", "tests 2 accepted"}, {start + "cert 3 5 1 20 50 4 9; test 1 5 20 497; test 1 5 70 497", "tests 2 rejected"},
		{start + "cert 3 3 2 20 50 4 9; test 1 3 22 509; test 1 3 22 509", "tests 2 accepted"}, {start + "cert 3 3 2 20 50 4 9; test 1 3 22 508; test 1 3 22 508", "tests 2 rejected"},
		// The instrument reads too little by up to 1000, so the lot may be worse or better than it seems.
		{"cert 1 4 0 10 100 1000 1000; lot 1 4 1000; test 1 4 10 0; test 1 4 10 0", "tests 2 accepted"}, {"cert 1 4 0 10 100 -1000 1000; lot 1 4 1000; test 1 4 10 2000; test 1 4 10 2000", "tests 2 accepted"}, {"cert 1 4 0 10 100 -1001 1000; lot 1 4 1000; test 1 4 10 2000; test 1 4 10 2000", "tests 2 rejected"},
		{"cert 1 4 0 10 100 -100000 -100000; lot 1 4 0; test 1 4 10 2000; test 1 4 10 0", "tests 2 rejected"},
		// By one certificate more the test is better than it seemed; or it is good only as long as this one is not bad.
		{start + "test 1 4 20 505; cert 3 4 0 20 50 -5 0; test 1 4 20 505", "tests 2 accepted"}, {start + "cert 3 4 0 20 50 -5 0; test 1 4 20 505; test 1 4 20 505; bad 3", "tests 2 rejected"},
		{start + "cert 3 4 0 20 50 -5 0; test 1 4 20 505; test 1 4 20 505; pass 1", "tests 2 accepted passed"}, {start + "cert 3 4 0 20 50 -5 0; test 1 4 20 505; test 1 4 20 505; pass 1; bad 3", "tests 2 rejected passed recalled"},
		{start + "cert 3 4 0 20 50 -5 0; test 1 4 20 505; test 1 4 20 505; pass 1; bad 3; cert 4 4 0 20 50 -5 0", "tests 2 accepted passed"}, {start + "cert 3 4 0 20 50 -5 0; test 1 4 20 505; test 1 4 20 505; pass 1; bad 3; cert 4 4 0 21 50 -5 0", "tests 2 rejected passed recalled"},
		{start + "test 1 4 20 600; test 1 2 10 600; pass 1; bad 2", "tests 1 open passed recalled"}, {start + "test 1 4 20 600; test 1 2 10 600; pass 1; bad 1", "tests 0 open passed recalled"},
		{start + "test 1 4 20 600; test 1 4 20 0; test 1 2 10 600; test 1 2 10 600; pass 1; bad 2", "tests 2 accepted passed"}, {start + "test 1 4 20 600; test 1 4 20 0; test 1 2 10 600; test 1 2 10 600; pass 1; bad 2; bad 1", "tests 0 open passed recalled"},
		// Tests that fell stand again, before the others: what they say together is more than the plan asks for.
		{start + "test 1 4 20 0; test 1 4 20 600; bad 2; test 1 2 10 600; test 1 2 10 600; cert 3 4 0 20 50 0 0", "tests 4 accepted"}, {start + "test 1 4 20 0; test 1 4 20 0; bad 2; test 1 2 10 600; test 1 2 10 600; pass 1", "tests 2 accepted passed"},
		{start + "test 1 4 20 0; test 1 4 20 0; bad 2; test 1 2 10 600; test 1 2 10 600; pass 1; cert 3 4 0 20 50 0 0", "tests 4 rejected passed recalled"},
		{start + "test 1 2 10 0; test 1 4 20 0; bad 2; test 1 2 10 600; test 1 2 10 600; test 1 2 10 600; pass 1; cert 3 4 0 20 50 0 0", "tests 5 rejected passed recalled"},
		{start + "test 1 4 20 600; test 1 4 20 600; bad 2; test 1 2 10 0; test 1 2 10 0; cert 3 4 0 20 50 0 0", "tests 4 accepted"}, {start + "test 1 2 10 600; test 1 4 20 600; bad 2; test 1 2 10 0; test 1 2 10 0; test 1 2 10 600; cert 3 4 0 20 50 0 0", "tests 5 accepted"},
		// A certificate that is valid on the day of a test holds only if the one on which it rests does.
		{start + "test 1 4 50 600; bad 1", "tests 0 open"}, {start + "cert 3 2 1 20 50 0 0; test 1 4 50 600; bad 1", "tests 0 open"}, {start + "cert 3 2 1 20 50 0 0; cert 4 4 2 20 50 0 0; test 1 4 50 600; bad 1", "tests 1 open"},
	} {
		goodOf(t, of(x.lines))
		if got := lineOfLot(t, of(x.lines), 1); got != x.want {
			t.Errorf("Report of %q: %q", x.lines, got)
		}
		var want []int
		if strings.Contains(x.want, "recalled") {
			want = []int{1}
		}
		if l, e := book.Recalled(of(x.lines)); !slices.Equal(l, want) || e != api.OK {
			t.Errorf("Recalled of %q: %v, %v", x.lines, l, e)
		}
	}
}

// P12.2: several lots, in any order.
func TestRecalled(t *testing.T) {
	lines := "cert 1 2 0 10 100 0 0; cert 2 4 0 10 100 0 0; lot 99 4 500; lot 5 4 500; lot 1 4 500; lot 10 4 500; "
	for _, lot := range []string{"5", "99", "1", "10"} {
		item := map[string]string{"5": "4", "99": "2", "1": "2", "10": "2"}[lot]
		lines += strings.NewReplacer("L", lot, "I", item).Replace("test L I 10 600; test L 2 10 600; ")
	}
	for _, x := range []struct {
		more string
		want []int
	}{
		{"pass 99", nil}, {"bad 1", nil}, {"pass 99; pass 1; pass 5; bad 1", []int{1, 5, 99}}, {"pass 99; pass 10; pass 5; bad 2", []int{5}}, {"pass 10; pass 99; bad 1", []int{10, 99}}, {"pass 10; pass 99; bad 1; cert 3 2 0 10 9 0 0", nil}, {"pass 10; bad 1; pass 99", []int{10}},
	} {
		if l, e := book.Recalled(of(lines + x.more)); !slices.Equal(l, x.want) || e != api.OK {
			t.Errorf("Recalled behind %q: %v, %v", x.more, l, e)
		}
	}
}

// P12.3
func TestWithdrawn(t *testing.T) {
	lines := "cert 1 2 0 10 100 -1 1; cert 2 4 2 20 50 0 0; cert 3 4 1 30 50 -20 20; cert 4 5 4 40 50 0 0; lot 1 9 500; lot 2 9 500; test 1 4 20 600; test 2 5 40 600; test 1 4 30 0; test 1 2 10 600; test 2 4 80 600; "
	for _, x := range []struct {
		more   string
		number int
		want   []int
		e      api.Errno
	}{
		{"lot 3 4 1", 1, []int{0, 3}, api.OK}, {"lot 3 4 1", 2, []int{0}, api.OK}, {"lot 3 4 1", 3, []int{4}, api.OK}, {"lot 3 4 1", 4, []int{1}, api.OK},
		{"lot 3 4 1", 5, nil, api.ErrNone}, {"lot 3 4 1", 0, nil, api.ErrNone}, {"lot 3 4 1", -1, nil, api.ErrNone}, {"lot 3 4 1", math.MinInt, nil, api.ErrNone}, {"lot 3 4 1", math.MaxInt, nil, api.ErrNone},
		{"bad 3", 1, []int{0, 1, 2, 3}, api.OK}, {"bad 3", 2, []int{0, 1, 2}, api.OK}, {"bad 3", 3, nil, api.OK}, {"bad 3", 4, []int{1}, api.OK},
		{"bad 1", 1, nil, api.OK}, {"bad 1", 2, nil, api.OK}, {"bad 1", 3, []int{1, 2, 4}, api.OK}, {"bad 1", 4, []int{1}, api.OK}, {"bad 4", 3, []int{4}, api.OK}, {"bad 1; bad 3", 4, nil, api.OK}, {"bad 3; bad 1", 2, nil, api.OK},
		{"cert 5 9 0 50 5 0 0", 5, nil, api.ErrNone}, {"cert 5 5 0 40 5 -60 60", 5, nil, api.OK}, {"cert 5 5 0 40 5 -60 60", 4, nil, api.OK}, {"cert 5 5 0 41 5 -60 60", 4, []int{1}, api.OK},
	} {
		if l, e := book.Withdrawn(of(lines+x.more), x.number); !slices.Equal(l, x.want) || e != x.e {
			t.Errorf("Withdrawn behind %q, %d: %v, %v", x.more, x.number, l, e)
		}
	}
}

// P12.4: the certificates and the runs.
func TestReport(t *testing.T) {
	for lines, want := range map[string]string{
		"": "certs 0 held 0 bad 0; end 0", "cert 1 2 3 10 100 0 0": "certs 1 held 0 bad 0; end 0", "cert 1 2 0 10 100 0 0; bad 1": "certs 1 held 0 bad 1; end 0", "bad 1; x; run 41 1 1": "certs 0 held 0 bad 0; end 0",
		"cert 1 2 0 10 100 0 0; cert 2 4 2 10 9 0 0; cert 3 5 3 10 9 0 0": "certs 3 held 2 bad 0; end 0", "cert 1 2 0 10 100 0 0; cert 2 4 2 10 9 0 0; cert 3 5 3 10 9 0 0; bad 1; bad 3": "certs 3 held 0 bad 2; end 0", "cert 1 2 0 10 100 0 0; cert 2 4 2 10 9 0 0; bad 2": "certs 2 held 1 bad 1; end 0",
		"run 1 0 1": "certs 0 held 0 bad 0; end 1", "run 1 9 1": "certs 0 held 0 bad 0; end 10", "run 2 9 1": "certs 0 held 0 bad 0; end 15", "run 1 10 1": "certs 0 held 0 bad 0; end 15", "run 1 13 1": "certs 0 held 0 bad 0; end 15", "run 1 14 1": "certs 0 held 0 bad 0; end 15", "run 36 0 1": "certs 0 held 0 bad 0; end 40",
		"run 2 9 2": "certs 0 held 0 bad 0; end 11", "run 2 9 3": "certs 0 held 0 bad 0; end 11", "run 3 0 3; run 3 0 3; run 3 0 3": "certs 0 held 0 bad 0; end 5", "run 3 0 2; run 3 0 2; run 3 0 2": "certs 0 held 0 bad 0; end 9", "run 40 0 3; run 1 39 3": "certs 0 held 0 bad 0; end 40", "run 1 8 1; run 1 8 1; run 1 8 1": "certs 0 held 0 bad 0; end 15",
		"lot 30 4 1; lot 4 4 1; lot 200 4 1; lot 11 4 1": "lot 4 tests 0 open; lot 11 tests 0 open; lot 30 tests 0 open; certs 0 held 0 bad 0; end 0",
	} {
		if text := reportOf(t, of(lines)); text != strings.ReplaceAll(want, "; ", "\n")+"\n" {
			t.Errorf("Report of %q: %q", lines, text)
		}
	}
}

// P12.5
func TestWrite(t *testing.T) {
	for _, x := range []struct {
		lines []string
		want  string
	}{
		{nil, ""}, {[]string{}, ""}, {[]string{""}, "{000:999:00011}\n"}, {[]string{"a"}, "{001:998:00109}a\n"}, {[]string{"ab"}, "{002:997:00307}ab\n"}, {[]string{"\x00"}, "{001:998:00012}\x00\n"}, {[]string{"\xff"}, "{001:998:00267}\xff\n"}, {[]string{"\n"}, "{001:998:00022}\n\n"},
		{[]string{"a", "", "a"}, "{001:998:00109}a\n{000:999:00022}\n{001:998:00131}a\n"}, {[]string{"lot 7 8 500", "lot 7 8 500", "no line"}, "{011:988:03483}lot 7 8 500\n{011:988:03494}lot 7 8 500\n{007:992:02813}no line\n"},
		// 256 times 20100, and 11, are 51 times 99991, and 46070.
		{[]string{strings.Repeat("\xff", 200)}, "{200:799:46070}" + strings.Repeat("\xff", 200) + "\n"},
	} {
		b, e := book.Write(x.lines)
		if string(b) != x.want || e != api.OK {
			t.Errorf("Write of %q: %q, %v", x.lines, b, e)
		}
	}
	// 11 times 50 are 550.
	b, e := book.Write(make([]string, 50))
	if s := string(b); len(b) != 50*16 || !strings.HasSuffix(s, "}\n{000:999:00550}\n") || e != api.OK {
		t.Errorf("Write of fifty lines: %q, %v", b, e)
	}
}

// P12.5, P12.13: what is no record.
func TestRecover(t *testing.T) {
	const a, none, second = "{001:998:00109}a\n", "{000:999:00022}\n", "{001:998:00131}a\n"
	for _, x := range []struct {
		bytes string
		want  []string
		read  int
	}{
		{"", nil, 0}, {a, []string{"a"}, 17}, {a + none, []string{"a", ""}, 33}, {a + none + second, []string{"a", "", "a"}, 50}, {a + none + second + second, []string{"a", "", "a"}, 50}, {a + a, []string{"a"}, 17}, {none, nil, 0}, {second, nil, 0}, {a + second, []string{"a"}, 17}, {a + "x", []string{"a"}, 17}, {"x" + a, nil, 0}, {"\n" + a, nil, 0}, {a + "\n" + none, []string{"a"}, 17},
		{"(001:998:00109}a\n", nil, 0}, {"{001:998:00109)a\n", nil, 0}, {"{001;998:00109}a\n", nil, 0}, {"{001:998;00109}a\n", nil, 0}, {"{001:998:00109}a\r", nil, 0}, {"{001:998:00109}a", nil, 0}, {"{001:998:00109}", nil, 0}, {"{001:998:00109", nil, 0}, {"{", nil, 0}, {"{000:999:00011}", nil, 0}, {"{000:999:00011}\n", []string{""}, 16},
		{"{1:998:00109}a\n", nil, 0}, {"{001:998:109}a\n", nil, 0}, {"{0001:998:00109}a\n", nil, 0}, {"{ 01:998:00109}a\n", nil, 0}, {"{+01:998:00109}a\n", nil, 0}, {"{00\x31:998:00109}a\n", []string{"a"}, 17}, {"{00a:998:00109}a\n", nil, 0}, {"{\x00\x00\x01:998:00109}a\n", nil, 0}, {"{-01:998:00109}a\n", nil, 0}, {"{0/;:998:00109}a\n", nil, 0}, {"{00/:998:00109}a\n", nil, 0}, {"{00!:998:00109}aaaaaaaaaaaaaaaaaaaa\n", nil, 0}, {a + "{0/1:998:00109}a\n", []string{"a"}, 17},
		{"{001:999:00109}a\n", nil, 0}, {"{001:997:00109}a\n", nil, 0}, {"{000:998:00109}a\n", nil, 0}, {"{002:998:00109}a\n", nil, 0}, {"{002:997:00109}a\n", nil, 0}, {"{001:998:00108}a\n", nil, 0}, {"{001:998:00110}a\n", nil, 0}, {"{001:998:10100}a\n", nil, 0}, {"{001:998:99991}a\n", nil, 0}, {"{001:998:00109}b\n", nil, 0},
		{recordOf(0, strings.Repeat("x", 200)), []string{strings.Repeat("x", 200)}, 216}, {recordOf(0, strings.Repeat("x", 201)), nil, 0}, {recordOf(0, strings.Repeat("x", 999)), nil, 0}, {a + recordOf(1, strings.Repeat("x", 201)) + second, []string{"a"}, 17}, {recordOf(0, "\n}{\x00"), []string{"\n}{\x00"}, 20},
		{fileOf(make([]string, 50)...), make([]string, 50), 800}, {fileOf(make([]string, 51)...), make([]string, 50), 800}, {fileOf(make([]string, 50)...) + "x", make([]string, 50), 800}, {fileOf(make([]string, 500)...), make([]string, 50), 800},
	} {
		if l, n := book.Recover([]byte(x.bytes)); !slices.Equal(l, x.want) || n != x.read {
			t.Errorf("Recover of %q: %q, %d", x.bytes, l, n)
		}
	}
	if l, n := book.Recover(nil); len(l) != 0 || n != 0 {
		t.Errorf("Recover of nothing: %q, %d", l, n)
	}
}

// P12.6
func TestResume(t *testing.T) {
	some := of("lot 1 4 500; bad 1; lot 1 4 500; x; pass 1")
	var lots []string
	for n := range 50 {
		lots = append(lots, fmt.Sprintf("lot %d 4 500", n+10))
	}
	for _, x := range []struct {
		bytes string
		more  []string
		want  []string
		e     api.Errno
	}{
		{"", nil, nil, api.OK}, {"", some, some[:1], api.OK}, {"x", some, some[:1], api.OK}, {fileOf(some...), nil, some, api.OK}, {fileOf(some...), some, some, api.OK}, {fileOf(some...) + "x", of("lot 2 4 500; lot 1 4 500; lot 3 4 500"), append(of("lot 1 4 500; bad 1; lot 1 4 500; x; pass 1"), of("lot 2 4 500; lot 3 4 500")...), api.OK},
		{fileOf("x", "y"), some, []string{"x", "y", "lot 1 4 500"}, api.OK}, {fileOf("x", "y")[:20], []string{"y", "lot 1 4 500"}, []string{"x", "lot 1 4 500"}, api.OK}, {fileOf("lot 1 4 500", "lot 2 4 500")[5:], []string{"lot 2 4 500"}, []string{"lot 2 4 500"}, api.OK},
		// A line may be accepted as those before it are, the ones that were read or the other ones.
		{fileOf("cert 1 2 0 0 9 0 0"), of("test 1 2 0 600; lot 1 4 500; test 1 2 0 600; test 1 2 0 600; pass 1; bad 1; test 1 2 0 600; pass 1"), of("cert 1 2 0 0 9 0 0; lot 1 4 500; test 1 2 0 600; test 1 2 0 600; pass 1; bad 1"), api.OK},
		{"", lots, lots, api.OK}, {fileOf(lots...), nil, lots, api.OK}, {fileOf(lots...), lots, lots, api.OK}, {fileOf(lots...) + "x", some, nil, api.ErrLimit}, {fileOf(lots...), some[:1], nil, api.ErrLimit}, {fileOf(lots...), some[1:2], lots, api.OK}, {fileOf(lots[:49]...), []string{"lot 1 4 500"}, append(slices.Clone(lots[:49]), "lot 1 4 500"), api.OK}, {fileOf(lots[:49]...), of("lot 1 4 500; lot 2 4 500"), nil, api.ErrLimit},
		{fileOf(make([]string, 50)...), lots[:1], nil, api.ErrLimit}, {fileOf(make([]string, 50)...), make([]string, 50), make([]string, 50), api.OK}, {fileOf(append(lots, "lot 2 4 500")...), nil, lots, api.OK},
	} {
		b, e := book.Resume([]byte(x.bytes), x.more)
		if string(b) != fileOf(x.want...) || e != x.e {
			t.Errorf("Resume of %q and %q: %q, %v", x.bytes, x.more, b, e)
		}
	}
}

// R1, R2: too many lines, or one that is too long.
func TestErrors(t *testing.T) {
	long := strings.Repeat("x", 201)
	for _, lines := range [][]string{make([]string, 51), make([]string, 1000), {long}, {"lot 1 4 500", "x", long}, {long, "x"}, append(make([]string, 60), long), {strings.Repeat("lot 1 4 500", 100000)}} {
		if s, errors, e := book.Play(lines); !areSame(s, book.State{}) || len(errors) != 0 || e != api.ErrLimit {
			t.Errorf("Play: %v, %v, %v", s, errors, e)
		}
		if l, e := book.Recalled(lines); len(l) != 0 || e != api.ErrLimit {
			t.Errorf("Recalled: %v, %v", l, e)
		}
		for _, number := range []int{0, 1} {
			if l, e := book.Withdrawn(lines, number); len(l) != 0 || e != api.ErrLimit {
				t.Errorf("Withdrawn: %v, %v", l, e)
			}
		}
		if text, e := book.Report(lines); text != "" || e != api.ErrLimit {
			t.Errorf("Report: %q, %v", text, e)
		}
		if b, e := book.Write(lines); len(b) != 0 || e != api.ErrLimit {
			t.Errorf("Write: %q, %v", b, e)
		}
		for _, b := range []string{"", fileOf("lot 1 4 500"), fileOf(make([]string, 50)...)} {
			if b, e := book.Resume([]byte(b), lines); len(b) != 0 || e != api.ErrLimit {
				t.Errorf("Resume: %q, %v", b, e)
			}
		}
	}
	most := slices.Repeat([]string{strings.Repeat("x", 200)}, 50)
	if s, errors := playOf(t, most); !areSame(s, book.State{}) || !slices.Equal(errors, slices.Repeat([]api.Errno{api.ErrForm}, 50)) {
		t.Errorf("Play of the most: %v, %v", s, errors)
	}
	if b, e := book.Write(most); string(b) != fileOf(most...) || len(b) != 50*216 || e != api.OK {
		t.Errorf("Write of the most: %d bytes, %v", len(b), e)
	}
	if b, e := book.Resume([]byte(fileOf(most...)), most); string(b) != fileOf(most...) || e != api.OK {
		t.Errorf("Resume of the most: %d bytes, %v", len(b), e)
	}
}

func overwrite[T any](list []T, with T) {
	list = list[:cap(list)]
	for i := range list {
		list[i] = with
	}
}

// R4: arguments are not written to, and results are in memory of their own; nothing is kept between calls.
func TestMemory(t *testing.T) {
	lines := of(busy)
	given := slices.Clone(lines)
	want, _ := hand{}.doAll(lines)
	for range 2 {
		s, errors := playOf(t, lines)
		if !areSame(s, want.State) {
			t.Fatalf("Play: %v", s)
		}
		// What is written to one of the lists is not seen in another one.
		overwrite(errors, api.ErrArg)
		overwrite(s.Runs[0].On, false)
		if !slices.Equal(s.Runs[1].On, []bool{true, false}) {
			t.Errorf("Play, the flags of a run are those of another one: %v", s.Runs)
		}
		overwrite(s.Bad, -1)
		overwrite(s.Tests, book.Test{})
		overwrite(s.Lots, book.Lot{})
		overwrite(s.Certs, chain.Cert{})
		overwrite(s.Runs, queue.Run{})
	}
	for range 2 {
		l, e := book.Recalled(append(slices.Clone(lines), "bad 10"))
		if !slices.Equal(l, []int{7}) || e != api.OK {
			t.Errorf("Recalled: %v, %v", l, e)
		}
		overwrite(l, 0)
		l, e = book.Withdrawn(lines, 20)
		if !slices.Equal(l, []int{1, 2, 3, 4, 5}) || e != api.OK {
			t.Errorf("Withdrawn: %v, %v", l, e)
		}
		overwrite(l, 0)
		b, e := book.Write(lines)
		if string(b) != fileOf(lines...) || e != api.OK {
			t.Errorf("Write: %q, %v", b, e)
		}
		read, _ := book.Recover(b)
		file, e := book.Resume(b, []string{"lot 50 4 500"})
		if e != api.OK || string(b) != fileOf(lines...) {
			t.Errorf("Resume: %v; the bytes are %q", e, b)
		}
		overwrite(b, 'x')
		if !slices.Equal(read, lines) || string(file) != fileOf(append(slices.Clone(lines), "lot 50 4 500")...) {
			t.Errorf("Recover, Resume: %q, %q", read, file)
		}
		overwrite(read, "")
		overwrite(file, 'x')
	}
	if !slices.Equal(lines, given) {
		t.Errorf("the lines are others: %q", lines)
	}
	// Lines behind those that are given, in the same memory, are not looked at.
	all := append(of(busy), "lot 50 4 500", "bad 10")
	if s, _ := playOf(t, all[:len(all)-2]); !areSame(s, want.State) {
		t.Errorf("Play of a part: %v", s)
	}
	if _, e := book.Resume(nil, all[:len(all)-2]); e != api.OK || all[len(all)-2] != "lot 50 4 500" {
		t.Errorf("Resume of a part: %v, %q", e, all)
	}
}
