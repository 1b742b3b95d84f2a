package book

import (
	"strconv"
	"strings"

	"tensile/chain"
	"tensile/plan"
	"tensile/queue"
)

// report is never told an error: the certificates and the runs of a state are valid, and the runs have a right plan.
func (w *work) report() string {
	var text strings.Builder
	for _, l := range w.Lots {
		text.WriteString(w.about(l))
	}
	held, _ := chain.Held(w.notBad(w.Certs), nil)
	_, end, _ := queue.Earliest(queueOf(w.Runs))
	text.WriteString(sentence("certs", strconv.Itoa(len(w.Certs)), "held", strconv.Itoa(len(held)), "bad", strconv.Itoa(len(w.Bad))))
	text.WriteString(sentence("end", strconv.Itoa(end)))
	return text.String()
}

// about returns the lot's line of the report.
func (w *work) about(l Lot) string {
	words := []string{"lot", strconv.Itoa(l.Number), "tests", strconv.Itoa(len(w.standing(l)))}
	switch w.verdict(l) {
	case plan.Accepted:
		words = append(words, "accepted")
	case plan.Rejected:
		words = append(words, "rejected")
	case plan.Open:
		words = append(words, "open")
	}
	if l.Passed {
		words = append(words, "passed")
	}
	if w.isRecalled(l) {
		words = append(words, "recalled")
	}
	return sentence(words...)
}

func sentence(words ...string) string { return strings.Join(words, " ") + "\n" }
