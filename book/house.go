package book

import (
	"tensile/chain"
	"tensile/plan"
	"tensile/queue"
)

const (
	firstInstrument = 2
	lastInstrument  = 5
)

// bookOf returns the house's items with the certificates.
func bookOf(certs []chain.Cert) chain.Book {
	items := []chain.Item{
		{Standard: true},
		{Standard: true, Value: chain.Range{Lo: -2, Hi: 2}},
		{Drift: 1}, {Drift: 1}, {}, {},
	}
	return chain.Book{Items: items, Certs: certs}
}

// queueOf returns the house's machines with the runs.
func queueOf(runs []queue.Run) queue.Queue {
	machines := [][]queue.Range{{{Lo: 10, Hi: 13}}, nil}
	return queue.Queue{Machines: machines, Runs: runs}
}

// planOf returns the house's plan of a lot.
func planOf(pieces int) plan.Plan {
	stages := []plan.Stage{{Take: 2, Accept: 0, Reject: 2}, {Take: 2, Accept: 1, Reject: 2}}
	return plan.Plan{Lot: pieces, Stages: stages}
}
