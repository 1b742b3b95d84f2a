package book

import (
	"slices"

	"tensile/api"
	"tensile/chain"
	"tensile/plan"
	"tensile/queue"
)

func (w *work) cert(n []int) {
	c := chain.Cert{Number: n[0], Item: n[1], By: n[2], Day: n[3], Valid: n[4], Diff: chain.Range{Lo: n[5], Hi: n[6]}}
	refuse(w.hasCert(c.Number), api.ErrTwice)
	certs := append(slices.Clone(w.Certs), c)
	e := chain.CheckBook(bookOf(certs))
	refuse(e != api.OK, e)
	refuse(isContradictory(w.notBad(certs)), api.ErrFail)
	w.Certs = certs
	w.forget()
}

func (w *work) bad(n []int) {
	refuse(!w.hasCert(n[0]), api.ErrNone)
	at, isBad := slices.BinarySearch(w.Bad, n[0])
	refuse(isBad, api.ErrTwice)
	w.Bad = slices.Insert(w.Bad, at, n[0])
	w.forget()
}

func (w *work) lot(n []int) {
	l := Lot{Number: n[0], Pieces: n[1], Limit: n[2]}
	refuse(!l.isInRange(), api.ErrRange)
	at, isThere := w.find(l.Number)
	refuse(isThere, api.ErrTwice)
	w.Lots = slices.Insert(w.Lots, at, l)
}

func (w *work) test(n []int) {
	t := Test{Lot: n[0], Item: n[1], Day: n[2], Reading: n[3]}
	refuse(!t.isInRange(), api.ErrRange)
	l := w.lotWith(t.Lot)
	refuse(l.Passed || w.verdict(*l) != plan.Open, api.ErrState)
	refuse(len(picked(w.Tests, l.has)) >= l.Pieces, api.ErrLimit)
	refuse(!w.stands(t), api.ErrLink)
	w.Tests = append(w.Tests, t)
}

func (w *work) pass(n []int) {
	l := w.lotWith(n[0])
	refuse(l.Passed, api.ErrTwice)
	verdict := w.verdict(*l)
	refuse(verdict == plan.Open, api.ErrState)
	refuse(verdict == plan.Rejected, api.ErrSpoil)
	l.Passed = true
}

func (w *work) run(n []int) {
	hours, ready, on := n[0], n[1], n[2]
	refuse(!isFromTo(hours, 1, api.MaxQueueHours) || !isFromTo(ready, 0, api.MaxQueueHours) || !isFromTo(on, 1, 3), api.ErrRange)
	refuse(len(w.Runs) >= api.MaxQueueRuns, api.ErrLimit)
	r := queue.Run{Hours: hours, Ready: ready, On: []bool{on != 2, on != 1}}
	runs := append(slices.Clone(w.Runs), r)
	_, _, e := queue.Earliest(queueOf(runs))
	refuse(e != api.OK, api.ErrFail)
	w.Runs = runs
}

// lotWith returns the lot with the number, so that it can be changed.
func (w *work) lotWith(number int) *Lot {
	at, isThere := w.find(number)
	refuse(!isThere, api.ErrNone)
	return &w.Lots[at]
}
