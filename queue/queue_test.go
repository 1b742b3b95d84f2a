package queue_test

import (
	"math"
	"reflect"
	"slices"
	"testing"

	"tensile/api"
	"tensile/queue"
)

const (
	idle    = queue.Idle
	yes, no = true, false
)

func to(low, high int) queue.Range { return queue.Range{Lo: low, Hi: high} }

func run(hours, ready int, on ...bool) queue.Run {
	return queue.Run{Hours: hours, Ready: ready, On: on}
}

func loss(machine, hour int) queue.Loss { return queue.Loss{Machine: machine, Hour: hour} }

// example is that of the chapter.
func example() queue.Queue {
	return queue.Queue{Machines: [][]queue.Range{{to(2, 3)}, nil}, Runs: []queue.Run{run(3, 0, yes, no), run(4, 0, yes, yes), run(2, 1, no, yes)}}
}

// examplePlan is that of the chapter.
func examplePlan() [][]int {
	return [][]int{{0, 1}, {0, 1}, {idle, 2}, {idle, 2}, {0, 1}, {1, idle}}
}

// free has machines that never stand still.
func free(machines int, runs ...queue.Run) queue.Queue {
	return queue.Queue{Machines: make([][]queue.Range, machines), Runs: runs}
}

// alone has one machine that stands still at some hours, and one run.
func alone(hours, ready int, stops ...queue.Range) queue.Queue {
	return queue.Queue{Machines: [][]queue.Range{stops}, Runs: []queue.Run{run(hours, ready, yes)}}
}

func changed(change func(q *queue.Queue)) queue.Queue {
	q := example()
	change(&q)
	return q
}

type badQueue struct {
	name string
	queue.Queue
	e api.Errno
}

// tooMuch returns queues that have too many of something; some of them are not valid otherwise, either.
func tooMuch() []badQueue {
	var all []badQueue
	bad := func(name string, change func(q *queue.Queue)) {
		all = append(all, badQueue{name, changed(change), api.ErrLimit})
	}
	bad("5 machines", func(q *queue.Queue) { *q = free(5, run(1, 0, yes, yes, yes, yes, yes)) })
	bad("5 machines, and no runs", func(q *queue.Queue) { *q = free(5) })
	bad("5 machines, without flags for them", func(q *queue.Queue) { q.Machines = make([][]queue.Range, 5) })
	bad("many machines", func(q *queue.Queue) { q.Machines = make([][]queue.Range, 100000) })
	bad("7 runs", func(q *queue.Queue) { *q = free(1, slices.Repeat([]queue.Run{run(1, 0, yes)}, 7)...) })
	bad("7 runs without flags", func(q *queue.Queue) { q.Runs = make([]queue.Run, 7) })
	bad("many runs", func(q *queue.Queue) { q.Runs = make([]queue.Run, 100000) })
	for machine := range 2 {
		bad("7 stops", func(q *queue.Queue) { q.Machines[machine] = make([]queue.Range, 7) })
		bad("many stops", func(q *queue.Queue) { q.Machines[machine] = make([]queue.Range, 100000) })
		bad("7 stops that are not valid", func(q *queue.Queue) { q.Machines[machine] = slices.Repeat([]queue.Range{to(5, 4)}, 7) })
	}
	bad("7 stops behind one that is not valid", func(q *queue.Queue) { q.Machines = [][]queue.Range{{to(5, 4)}, make([]queue.Range, 7)} })
	bad("7 stops, and a run that is not valid", func(q *queue.Queue) {
		q.Machines[1] = make([]queue.Range, 7)
		q.Runs[0].Hours = -1
	})
	bad("7 runs behind a stop that is not valid", func(q *queue.Queue) {
		q.Machines[0] = []queue.Range{to(-1, 4)}
		q.Runs = make([]queue.Run, 7)
	})
	bad("5 machines behind a stop that is not valid", func(q *queue.Queue) {
		q.Machines = [][]queue.Range{{to(0, 40)}, nil, nil, nil, nil}
	})
	return all
}

// notValid returns queues that are not valid, but have not too many of anything.
func notValid() []badQueue {
	var all []badQueue
	bad := func(name string, change func(q *queue.Queue)) {
		all = append(all, badQueue{name, changed(change), api.ErrArg})
	}
	for _, stop := range []queue.Range{to(1, 0), to(39, 0), to(-1, 0), to(-1, -1), to(39, 40), to(40, 40), to(40, 39), to(40, 41), to(math.MinInt, 5), to(5, math.MaxInt), to(math.MinInt, math.MaxInt), to(math.MaxInt, math.MinInt), to(math.MaxInt, math.MaxInt)} {
		bad("a wrong stop", func(q *queue.Queue) { q.Machines[0] = []queue.Range{stop} })
		bad("a wrong stop of the last machine", func(q *queue.Queue) { q.Machines[1] = []queue.Range{to(0, 0), stop} })
		bad("a wrong stop of a machine without runs", func(q *queue.Queue) {
			*q = queue.Queue{Machines: [][]queue.Range{{stop, to(0, 0)}}}
		})
	}
	for _, n := range []int{-1, 41, math.MinInt, math.MaxInt} {
		bad("wrong Hours", func(q *queue.Queue) { q.Runs[0].Hours = n })
		bad("wrong Hours of the last run", func(q *queue.Queue) { q.Runs[2].Hours = n })
		bad("a wrong Ready", func(q *queue.Queue) { q.Runs[0].Ready = n })
		bad("a wrong Ready of the last run", func(q *queue.Queue) { q.Runs[2].Ready = n })
	}
	for i := range 3 {
		for _, on := range [][]bool{nil, {}, {yes}, {yes, yes, yes}, make([]bool, 100000)} {
			bad("not a flag for each machine", func(q *queue.Queue) { q.Runs[i].On = on })
		}
	}
	bad("one machine less", func(q *queue.Queue) { q.Machines = q.Machines[1:] })
	bad("one machine more", func(q *queue.Queue) { q.Machines = append(q.Machines, nil) })
	bad("no machine", func(q *queue.Queue) { q.Machines = nil })
	bad("a flag without machines", func(q *queue.Queue) { *q = free(0, run(0, 0, no)) })
	return all
}

func badQueues() []badQueue { return slices.Concat(tooMuch(), notValid()) }

// P10.1
func TestCheckQueue(t *testing.T) {
	for _, x := range badQueues() {
		if e := queue.CheckQueue(x.Queue); e != x.e {
			t.Errorf("%s: %v", x.name, e)
		}
	}
	for _, q := range []queue.Queue{
		example(), {}, free(4), free(1), free(0, make([]queue.Run, 6)...), free(0, run(40, 40)), free(4, slices.Repeat([]queue.Run{run(40, 40, yes, yes, yes, yes)}, 6)...), free(2, run(0, 0, no, no)), free(1, run(40, 0, no)),
		alone(1, 0, to(0, 39)), alone(1, 0, to(0, 0), to(39, 39)), alone(40, 40, slices.Repeat([]queue.Range{to(3, 7)}, 6)...), alone(1, 0, to(20, 30), to(5, 25), to(1, 1), to(39, 39), to(0, 0), to(0, 39)),
	} {
		if e := queue.CheckQueue(q); e != api.OK {
			t.Errorf("CheckQueue of %v: %v", q, e)
		}
	}
}

type roomOf struct {
	queue.Queue
	runs  []int
	until int
	want  int
}

func rooms() []roomOf {
	threeOnTwo := free(2, run(1, 0, yes, no), run(1, 0, no, yes), run(1, 0, no, yes))
	six := free(4, run(0, 0, yes, no, no, no), run(0, 0, yes, yes, no, no), run(0, 0, no, yes, yes, no), run(0, 0, no, no, yes, yes), run(0, 0, no, no, no, yes), run(0, 0, yes, no, no, yes))
	long := alone(40, 0, to(0, 0), to(3, 5), to(4, 6), to(39, 39))
	return []roomOf{
		// The chapter's example.
		{example(), []int{0, 1, 2}, 2, 4}, {example(), []int{1, 2}, 5, 7}, {example(), []int{0}, 5, 3}, {example(), []int{0, 1, 2}, 5, 8}, {example(), []int{0, 1, 2}, 6, 10},
		// Nobody, and no hour.
		{example(), nil, 40, 0}, {example(), []int{}, 40, 0}, {example(), []int{0, 1, 2}, 0, 0}, {queue.Queue{}, nil, 0, 0}, {queue.Queue{}, nil, 40, 0}, {free(0, run(3, 0)), []int{0}, 40, 0},
		// The hour itself does not count, and only from Ready on.
		{example(), []int{2}, 1, 0}, {example(), []int{2}, 2, 1}, {example(), []int{2}, 40, 39}, {alone(0, 40), []int{0}, 40, 0}, {alone(0, 39), []int{0}, 40, 1}, {alone(0, 39), []int{0}, 39, 0},
		// It does not matter how many Hours the runs need.
		{example(), []int{0}, 40, 38}, {example(), []int{1}, 40, 40}, {example(), []int{0, 1}, 40, 78}, {free(1, run(0, 0, yes)), []int{0}, 40, 40},
		// As many as machines, or as runs, at most.
		{threeOnTwo, []int{0, 1, 2}, 3, 6}, {threeOnTwo, []int{1, 2}, 3, 3}, {threeOnTwo, []int{0, 2}, 3, 6}, {threeOnTwo, []int{0}, 3, 3}, {free(2, run(1, 0, no, no)), []int{0}, 9, 0}, {free(4, run(1, 0, yes, yes, yes, yes)), []int{0}, 9, 9},
		// Whoever is on a machine has to give way, along all of them.
		{six, []int{0, 1, 2, 3}, 1, 4}, {six, []int{0, 1, 5}, 1, 3}, {six, []int{0, 4, 5}, 1, 2}, {six, []int{0, 1, 2, 3, 4, 5}, 2, 8}, {six, []int{0, 1, 2, 4, 5}, 1, 4}, {six, []int{1, 2, 3, 4}, 1, 4},
		{free(2, run(0, 0, yes, yes), run(0, 0, yes, no)), []int{0, 1}, 3, 6}, {free(4, run(0, 0, yes, yes, no, no), run(0, 0, no, yes, yes, no), run(0, 0, no, no, yes, yes), run(0, 0, yes, no, no, no)), []int{0, 1, 2, 3}, 2, 8}, {free(4, run(0, 0, no, no, yes, yes), run(0, 0, no, yes, no, yes), run(0, 0, yes, no, no, yes), run(0, 0, no, no, no, yes)), []int{0, 1, 2, 3}, 2, 8},
		// Stops that overlap.
		{long, []int{0}, 40, 34}, {long, []int{0}, 39, 34}, {long, []int{0}, 7, 2}, {long, []int{0}, 8, 3}, {long, []int{0}, 1, 0}, {long, []int{0}, 2, 1},
	}
}

// P10.1
func TestRoom(t *testing.T) {
	for _, x := range rooms() {
		if n, e := queue.Room(x.Queue, x.runs, x.until); n != x.want || e != api.OK {
			t.Errorf("Room of %v, %v up to %d: %d, %v", x.Queue, x.runs, x.until, n, e)
		}
	}
}

type ending struct {
	queue.Queue
	end    int
	reason []int
	e      api.Errno // of Earliest
}

func hopeless() []ending {
	return []ending{
		{changed(func(q *queue.Queue) { q.Runs[0].Hours = 39 }), 0, []int{0}, api.ErrFail},
		{alone(40, 1), 0, []int{0}, api.ErrFail}, {alone(1, 40), 0, []int{0}, api.ErrFail}, {alone(40, 0, to(7, 7)), 0, []int{0}, api.ErrFail}, {alone(1, 0, to(0, 39)), 0, []int{0}, api.ErrFail},
		{free(0, run(1, 0)), 0, []int{0}, api.ErrFail}, {free(0, run(0, 0), run(1, 0)), 0, []int{1}, api.ErrFail}, {free(2, run(1, 0, no, no), run(1, 0, yes, yes)), 0, []int{0}, api.ErrFail},
		// Two that have room alone, but not together; and four of them on three machines.
		{free(1, run(20, 0, yes), run(21, 0, yes)), 0, []int{0, 1}, api.ErrFail}, {free(1, run(20, 0, yes), run(0, 0, yes), run(21, 0, yes)), 0, []int{0, 2}, api.ErrFail},
		{free(3, slices.Repeat([]queue.Run{run(31, 0, yes, yes, yes)}, 4)...), 0, []int{0, 1, 2, 3}, api.ErrFail},
		// A run that has room up to the last hour, but not up to the one before it.
		{free(1, run(40, 0, yes), run(1, 0, yes)), 0, []int{0, 1}, api.ErrFail}, {free(2, run(1, 0, yes, no), run(40, 0, no, yes), run(40, 0, yes, no)), 0, []int{0, 2}, api.ErrFail}, {alone(39, 2), 0, []int{0}, api.ErrFail},
		// Of several lists the shortest one, and of these the least one.
		{free(2, run(20, 0, yes, no), run(21, 0, yes, no), run(40, 1, no, yes)), 0, []int{2}, api.ErrFail}, {free(1, run(15, 0, yes), run(15, 0, yes), run(20, 0, yes), run(26, 0, yes)), 0, []int{0, 3}, api.ErrFail}, {free(1, run(1, 40, yes), run(1, 40, yes)), 0, []int{0}, api.ErrFail},
	}
}

func endings() []ending {
	return append(hopeless(), []ending{
		// The chapter's example, and DOC's: three runs of two hours, one of which is interrupted, or goes on elsewhere.
		{example(), 6, []int{0, 1, 2}, api.OK}, {free(2, run(2, 0, yes, yes), run(2, 0, yes, yes), run(2, 0, yes, yes)), 3, []int{0, 1, 2}, api.OK},
		{changed(func(q *queue.Queue) { q.Runs[2].Ready = 7 }), 9, []int{2}, api.OK},
		{free(1, run(2, 0, yes), run(3, 0, yes)), 5, []int{0, 1}, api.OK}, {free(2, run(5, 0, yes, yes)), 5, []int{0}, api.OK}, {free(2, run(3, 0, yes, no), run(1, 2, yes, yes), run(1, 0, yes, no)), 4, []int{0, 2}, api.OK},
		// Up to the last hour.
		{alone(40, 0), 40, []int{0}, api.OK}, {alone(1, 39), 40, []int{0}, api.OK}, {alone(39, 0, to(0, 0)), 40, []int{0}, api.OK}, {alone(39, 0, to(39, 39)), 39, []int{0}, api.OK}, {alone(1, 0, to(0, 38)), 40, []int{0}, api.OK}, {free(3, slices.Repeat([]queue.Run{run(30, 0, yes, yes, yes)}, 4)...), 40, []int{0, 1, 2, 3}, api.OK},
		{alone(2, 0, to(0, 4), to(6, 6)), 8, []int{0}, api.OK}, {alone(1, 0), 1, []int{0}, api.OK}, {alone(1, 3), 4, []int{0}, api.OK},
		// A run that has room up to the hour before the end, but not up to the one before this.
		{free(1, run(2, 0, yes), run(1, 0, yes)), 3, []int{0, 1}, api.OK}, {free(2, run(1, 0, yes, no), run(3, 0, no, yes), run(3, 0, yes, no)), 4, []int{0, 2}, api.OK}, {free(1, run(39, 0, yes), run(1, 0, yes)), 40, []int{0, 1}, api.OK},
		// A run that needs nothing is of no reason, and may be ready late.
		{free(1, run(0, 40, yes), run(2, 0, yes)), 2, []int{1}, api.OK}, {free(1, run(0, 0, yes), run(2, 0, yes), run(0, 0, no), run(1, 0, yes)), 3, []int{1, 3}, api.OK},
		// Of two lists the least one; a shorter one before it.
		{free(2, run(3, 0, yes, no), run(3, 0, no, yes)), 3, []int{0}, api.OK}, {free(2, run(1, 0, yes, no), run(2, 0, yes, no), run(2, 0, no, yes), run(1, 0, no, yes)), 3, []int{0, 1}, api.OK}, {free(2, run(1, 0, yes, no), run(2, 0, yes, no), run(3, 0, no, yes)), 3, []int{2}, api.OK}, {free(3, run(1, 0, yes, no, no), run(1, 0, no, yes, no), run(2, 0, no, yes, no), run(2, 0, yes, no, no)), 3, []int{0, 3}, api.OK},
		// Who has a machine goes to another one, or to another hour, if only so all can be on some.
		{queue.Queue{Machines: [][]queue.Range{{to(1, 5)}, nil}, Runs: []queue.Run{run(2, 0, yes, yes), run(1, 0, yes, no)}}, 2, []int{0}, api.OK},
		{queue.Queue{Machines: [][]queue.Range{{to(1, 39)}, {to(0, 0), to(2, 39)}, {to(0, 1)}}, Runs: []queue.Run{run(1, 0, yes, yes, yes), run(1, 0, yes, yes, no), run(1, 0, yes, no, no)}}, 3, []int{0, 1, 2}, api.OK},
		{free(4, slices.Repeat([]queue.Run{run(20, 3, yes, yes, yes, yes)}, 6)...), 33, []int{0, 1, 2, 3, 4, 5}, api.OK},
	}...)
}

// P10.2
func TestEarliest(t *testing.T) {
	for _, x := range endings() {
		p, end, e := queue.Earliest(x.Queue)
		if end != x.end || e != x.e || len(p) != end {
			t.Errorf("Earliest of %v: %v, %d, %v", x.Queue, p, end, e)
		}
		if e == api.OK && !(isRight(x.Queue, p) && endOf(p) == end) {
			t.Errorf("Earliest of %v: %v, %d", x.Queue, p, end)
		}
	}
}

// P10.3
func TestReason(t *testing.T) {
	for _, x := range endings() {
		if l, e := queue.Reason(x.Queue); !slices.Equal(l, x.reason) || e != api.OK {
			t.Errorf("Reason of %v: %v, %v", x.Queue, l, e)
		}
	}
}

// P10.2, P10.3: where nothing needs an hour.
func TestNothingToDo(t *testing.T) {
	for _, q := range []queue.Queue{{}, free(4), free(0, run(0, 0)), free(0, run(0, 40), run(0, 40)), alone(0, 0), alone(0, 40), alone(0, 0, to(0, 39)), free(2, run(0, 9, yes, no), run(0, 0, no, no))} {
		p, end, e := queue.Earliest(q)
		if len(p) != 0 || end != 0 || e != api.OK {
			t.Errorf("Earliest of %v: %v, %d, %v", q, p, end, e)
		}
		reasonError(t, "nothing to do", q, api.ErrNone)
		if !queue.ProvePlan(q, nil, 0) || queue.ProvePlan(q, nil, -1) {
			t.Errorf("ProvePlan of %v, and nothing", q)
		}
	}
}

type proof struct {
	name string
	plan [][]int
	end  int
	want bool
}

// with returns the example's plan with another run on a machine at an hour.
func with(hour, machine, run int) [][]int {
	p := examplePlan()
	p[hour][machine] = run
	return p
}

func proofs() []proof {
	still := []int{idle, idle}
	longer := func(many int) [][]int { return append(examplePlan(), slices.Repeat([][]int{still}, many)...) }
	all := []proof{
		{"the example's", examplePlan(), 6, true}, {"the example's", examplePlan(), 5, false}, {"the example's", examplePlan(), 7, true}, {"the example's", examplePlan(), 40, true}, {"the example's", examplePlan(), 0, false}, {"the example's", examplePlan(), -1, false}, {"the example's", examplePlan(), math.MaxInt, true}, {"the example's", examplePlan(), math.MinInt, false},
		{"one with idle hours at the end", longer(1), 6, true}, {"one with idle hours at the end", longer(1), 5, false}, {"one of 40 hours", longer(34), 6, true}, {"one of 41 hours", longer(35), 6, false}, {"one of 41 hours", longer(35), 41, false}, {"one with an idle hour between", slices.Insert(examplePlan(), 5, still), 7, true}, {"one with an idle hour between", slices.Insert(examplePlan(), 5, still), 6, false},
		{"nothing", nil, 40, false}, {"idle hours", make([][]int, 6), 40, false}, {"many hours", make([][]int, 100000), 40, false}, {"many machines", append(examplePlan(), slices.Repeat(still, 50000)), 40, false},
		{"another one", [][]int{{0, 1}, {0, 1}, {idle, 1}, {idle, 2}, {0, 2}, {1, idle}}, 6, true}, {"a later one", [][]int{still, {0, 2}, {idle, 2}, {idle, 1}, {1, idle}, {0, 1}, {1, idle}, {0, idle}}, 8, true},
		{"one with an hour without machines", append(examplePlan(), nil), 40, false}, {"one with an hour of one machine", append(examplePlan(), []int{idle}), 40, false}, {"one with an hour of three machines", append(examplePlan(), []int{idle, idle, idle}), 40, false}, {"one with a first hour of three machines", slices.Replace(examplePlan(), 0, 1, []int{0, 1, idle}), 40, false}, {"one without the second machine", slices.Replace(examplePlan(), 5, 6, []int{1}), 40, false},
		{"one hour less of 0", with(0, 0, idle), 6, false}, {"one hour less of 1", examplePlan()[:5], 6, false}, {"one hour less of 2", with(3, 1, idle), 6, false}, {"one hour more of 1", with(5, 1, 1), 6, false}, {"one hour more of 0", append(examplePlan(), []int{0, idle}), 7, false}, {"one hour more of 2", append(examplePlan(), []int{idle, 2}), 7, false},
		{"0 on the machine 1", [][]int{{1, 0}, {0, 1}, {idle, 2}, {idle, 2}, {0, 1}, {0, 1}}, 6, false}, {"2 on the machine 0", [][]int{{0, 1}, {0, 1}, {idle, 2}, {idle, 1}, {0, 1}, {2, idle}}, 6, false},
		{"2 before it is ready", [][]int{{0, 2}, {0, 1}, {idle, 1}, {idle, 2}, {0, 1}, {1, idle}}, 6, false}, {"a machine that stands still", [][]int{{0, 1}, {0, 1}, {0, 2}, {idle, 2}, {1, idle}, {1, idle}}, 6, false}, {"a machine that stands still yet", [][]int{{0, 1}, {0, 1}, {idle, 2}, {0, 2}, {1, idle}, {1, idle}}, 6, false},
		{"a run on two machines", [][]int{{1, 1}, {0, idle}, {idle, 2}, {idle, 2}, {0, 1}, {0, 1}}, 6, false}, {"a run on two machines instead of one", [][]int{{1, 1}, {0, 1}, {idle, 2}, {idle, 2}, {0, 1}, {0, idle}}, 6, false},
	}
	for _, n := range []int{3, -2, 6, 7, math.MinInt, math.MaxInt} {
		all = append(all, proof{"a run that there is not", with(5, 1, n), 40, false}, proof{"a run that there is not, instead of one", with(0, 0, n), 40, false})
	}
	return all
}

// P10.4
func TestProvePlan(t *testing.T) {
	for _, x := range proofs() {
		if is := queue.ProvePlan(example(), x.plan, x.end); is != x.want {
			t.Errorf("%s: ProvePlan of %d: %v", x.name, x.end, is)
		}
	}
	// A plan for no machines; all of them are idle at its hours.
	for _, x := range []struct {
		q    queue.Queue
		plan [][]int
		want bool
	}{
		{queue.Queue{}, make([][]int, 40), true}, {queue.Queue{}, make([][]int, 41), false}, {queue.Queue{}, [][]int{{idle}}, false}, {free(0, run(0, 0)), [][]int{nil, {}}, true}, {free(0, run(1, 0)), [][]int{nil}, false},
	} {
		if is := queue.ProvePlan(x.q, x.plan, 0); is != x.want {
			t.Errorf("ProvePlan of %v, %v: %v", x.q, x.plan, is)
		}
	}
	for _, x := range badQueues() {
		for _, p := range [][][]int{nil, examplePlan(), make([][]int, 3), slices.Repeat([][]int{{idle, idle, idle, idle, idle}}, 3), slices.Repeat([][]int{{0}}, 3), make([][]int, 100000)} {
			if queue.ProvePlan(x.Queue, p, 40) {
				t.Errorf("%s: proved by %d hours", x.name, len(p))
			}
		}
	}
}

// A queue that is not valid has no right plan, though this one would be right without what is wrong.
func TestProveNothingOfBadQueues(t *testing.T) {
	for name, change := range map[string]func(q *queue.Queue){
		"a wrong stop":        func(q *queue.Queue) { q.Machines[1] = []queue.Range{to(39, 40)} },
		"a stop of nothing":   func(q *queue.Queue) { q.Machines[1] = []queue.Range{to(9, 8)} },
		"7 stops":             func(q *queue.Queue) { q.Machines[1] = slices.Repeat([]queue.Range{to(9, 9)}, 7) },
		"a Ready too early":   func(q *queue.Queue) { q.Runs[0].Ready = -1 },
		"a Ready too late":    func(q *queue.Queue) { q.Runs = append(q.Runs, run(0, 41, yes, yes)) },
		"a flag more":         func(q *queue.Queue) { q.Runs[0].On = []bool{yes, no, yes} },
		"a run without flags": func(q *queue.Queue) { q.Runs = append(q.Runs, run(0, 0)) },
		"7 runs":              func(q *queue.Queue) { q.Runs = append(q.Runs, slices.Repeat([]queue.Run{run(0, 0, yes, yes)}, 4)...) },
	} {
		if queue.ProvePlan(changed(change), examplePlan(), 6) {
			t.Errorf("%s: proved", name)
		}
	}
}

type restOf struct {
	hour         int
	losses       []queue.Loss
	hours, ready [3]int
}

func rests() []restOf {
	all := []restOf{
		// The chapter's example, and the same without the loss.
		{3, []queue.Loss{loss(1, 2)}, [3]int{1, 2, 2}, [3]int{3, 3, 3}}, {3, nil, [3]int{1, 2, 1}, [3]int{3, 3, 3}}, {3, []queue.Loss{}, [3]int{1, 2, 1}, [3]int{3, 3, 3}},
		// A loss that is not before the hour, of a machine that was idle, and behind the plan, changes nothing.
		{3, []queue.Loss{loss(1, 3)}, [3]int{1, 2, 1}, [3]int{3, 3, 3}}, {4, []queue.Loss{loss(1, 3)}, [3]int{1, 2, 1}, [3]int{4, 4, 4}}, {3, []queue.Loss{loss(0, 2), loss(0, 3)}, [3]int{1, 2, 1}, [3]int{3, 3, 3}}, {40, []queue.Loss{loss(0, 6), loss(1, 39), loss(1, 5)}, [3]int{}, [3]int{40, 40, 40}},
		// Losses that are the same count once, in any order.
		{6, []queue.Loss{loss(0, 0), loss(0, 0), loss(0, 0)}, [3]int{1, 0, 0}, [3]int{6, 6, 6}}, {6, []queue.Loss{loss(0, 5), loss(1, 3), loss(0, 0), loss(0, 5), loss(1, 2), loss(0, 0)}, [3]int{1, 1, 2}, [3]int{6, 6, 6}}, {6, []queue.Loss{loss(0, 0), loss(1, 0), loss(0, 1), loss(1, 1)}, [3]int{2, 2, 0}, [3]int{6, 6, 6}},
		{6, slices.Repeat([]queue.Loss{loss(0, 1), loss(1, 1)}, 50000), [3]int{1, 1, 0}, [3]int{6, 6, 6}},
		// Ready stays where it is later.
		{0, []queue.Loss{loss(1, 2), loss(0, 0)}, [3]int{3, 4, 2}, [3]int{0, 0, 1}}, {1, nil, [3]int{2, 3, 2}, [3]int{1, 1, 1}}, {1, []queue.Loss{loss(0, 0)}, [3]int{3, 3, 2}, [3]int{1, 1, 1}}, {2, nil, [3]int{1, 2, 2}, [3]int{2, 2, 2}}, {5, nil, [3]int{0, 1, 0}, [3]int{5, 5, 5}},
		{6, nil, [3]int{}, [3]int{6, 6, 6}}, {7, nil, [3]int{}, [3]int{7, 7, 7}}, {40, nil, [3]int{}, [3]int{40, 40, 40}},
	}
	everything := restOf{40, nil, [3]int{3, 4, 2}, [3]int{40, 40, 40}}
	for hour := range 40 {
		everything.losses = append(everything.losses, loss(0, hour), loss(1, hour))
	}
	return append(all, everything)
}

// P10.5
func TestRest(t *testing.T) {
	for _, x := range rests() {
		q, e := queue.Rest(example(), examplePlan(), x.hour, x.losses)
		want := example()
		for i := range want.Runs {
			want.Runs[i].Hours, want.Runs[i].Ready = x.hours[i], x.ready[i]
		}
		if e != api.OK || !isSame(q, want) {
			t.Errorf("Rest at %d: %v, %v", x.hour, q, e)
		}
	}
	late := changed(func(q *queue.Queue) { q.Runs[2].Ready = 30 })
	p := examplePlan()
	for len(p) < 38 {
		p = append(p, []int{idle, idle})
	}
	p[2][1], p[3][1], p[30][1], p[37][1] = idle, idle, 2, 2
	for _, x := range []struct{ hour, left, ready int }{{29, 2, 30}, {30, 2, 30}, {31, 1, 31}, {37, 1, 37}, {38, 0, 38}, {40, 0, 40}} {
		q, e := queue.Rest(late, p, x.hour, nil)
		if e != api.OK || len(q.Runs) != 3 || q.Runs[2].Hours != x.left || q.Runs[2].Ready != x.ready {
			t.Errorf("Rest of %v at %d: %v, %v", late, x.hour, q, e)
		}
	}
	for _, q := range []queue.Queue{{}, free(4), free(0, run(0, 40))} {
		if left, e := queue.Rest(q, nil, 40, nil); e != api.OK || !isSame(left, q) {
			t.Errorf("Rest of %v: %v, %v", q, left, e)
		}
	}
}

func roomError(t *testing.T, name string, q queue.Queue, runs []int, hour int, want api.Errno) {
	t.Helper()
	if n, e := queue.Room(q, runs, hour); n != 0 || e != want {
		t.Errorf("%s: Room up to %d: %d, %v", name, hour, n, e)
	}
}

func earliestError(t *testing.T, name string, q queue.Queue, want api.Errno) {
	t.Helper()
	if p, end, e := queue.Earliest(q); len(p) != 0 || end != 0 || e != want {
		t.Errorf("%s: Earliest: %v, %d, %v", name, p, end, e)
	}
}

func reasonError(t *testing.T, name string, q queue.Queue, want api.Errno) {
	t.Helper()
	if l, e := queue.Reason(q); len(l) != 0 || e != want {
		t.Errorf("%s: Reason: %v, %v", name, l, e)
	}
}

func restError(t *testing.T, name string, q queue.Queue, plan [][]int, hour int, losses []queue.Loss, want api.Errno) {
	t.Helper()
	if q, e := queue.Rest(q, plan, hour, losses); len(q.Machines) != 0 || len(q.Runs) != 0 || e != want {
		t.Errorf("%s: Rest at %d: %v, %v", name, hour, q, e)
	}
}

// R1, R2: what is wrong with the queue comes before what is wrong with the rest.
func TestErrorsOfQueues(t *testing.T) {
	for _, x := range badQueues() {
		for _, hour := range []int{0, 40, -1, 41, math.MinInt, math.MaxInt} {
			for _, runs := range [][]int{nil, {0}, {0, 0}, {-1}, {1, 0}, make([]int, 100)} {
				roomError(t, x.name, x.Queue, runs, hour, x.e)
			}
			for _, p := range [][][]int{nil, examplePlan(), make([][]int, 41)} {
				restError(t, x.name, x.Queue, p, hour, nil, x.e)
				restError(t, x.name, x.Queue, p, hour, []queue.Loss{loss(0, 0), loss(-1, -1)}, x.e)
			}
		}
		earliestError(t, x.name, x.Queue, x.e)
		reasonError(t, x.name, x.Queue, x.e)
	}
}

// R1, R2: the calls' own errors.
func TestErrorsOfCalls(t *testing.T) {
	for _, hour := range []int{-1, 41, math.MinInt, math.MaxInt} {
		roomError(t, "no hour", example(), []int{0, 1, 2}, hour, api.ErrRange)
		roomError(t, "no hour, and no runs", example(), nil, hour, api.ErrRange)
		roomError(t, "no hour, and nothing at all", queue.Queue{}, nil, hour, api.ErrRange)
		restError(t, "no hour", example(), examplePlan(), hour, nil, api.ErrRange)
		restError(t, "no hour, and nothing at all", queue.Queue{}, nil, hour, nil, api.ErrRange)
	}
	for _, runs := range [][]int{{3}, {0, 1, 2, 3}, {-1}, {-1, 0}, {1, 0}, {0, 0}, {0, 2, 1}, {1, 1, 2}, {0, 1, 1}, {2, 0}, {math.MinInt}, {0, math.MaxInt}, make([]int, 100000)} {
		for _, hour := range []int{0, 5, 40} {
			roomError(t, "no list of runs", example(), runs, hour, api.ErrRange)
		}
	}
	roomError(t, "a run of none", free(4), []int{0}, 1, api.ErrRange)
	for _, x := range proofs() {
		if !x.want && x.end == 40 {
			restError(t, x.name, example(), x.plan, 3, nil, api.ErrRange)
			restError(t, x.name, example(), x.plan, 0, nil, api.ErrRange)
		}
	}
	restError(t, "one hour less of 1", example(), examplePlan()[:5], 3, nil, api.ErrRange)
	for _, x := range []queue.Loss{loss(2, 0), loss(-1, 0), loss(4, 0), loss(0, -1), loss(0, 40), loss(1, 41), loss(math.MaxInt, 0), loss(math.MinInt, 0), loss(0, math.MaxInt), loss(0, math.MinInt)} {
		for _, hour := range []int{0, 3, 40} {
			restError(t, "no loss", example(), examplePlan(), hour, []queue.Loss{x}, api.ErrRange)
			restError(t, "no loss behind one", example(), examplePlan(), hour, []queue.Loss{loss(1, 2), x}, api.ErrRange)
			restError(t, "no loss before one", example(), examplePlan(), hour, []queue.Loss{x, loss(1, 2)}, api.ErrRange)
		}
	}
	restError(t, "a loss of no machine", queue.Queue{}, nil, 0, []queue.Loss{loss(0, 0)}, api.ErrRange)
}

// overwrite writes to all of a list, and to what is behind it.
func overwrite[T any](list []T, with T) {
	list = list[:cap(list)]
	for i := range list {
		list[i] = with
	}
}

// R4: each list of a result is in memory of its own.
func TestMemoryOfPlans(t *testing.T) {
	q := example()
	p, _, _ := queue.Earliest(q)
	for hour := range p {
		others := slices.Clone(p)
		for i, crew := range others {
			others[i] = slices.Clone(crew)
		}
		overwrite(p[hour], 77)
		others[hour] = p[hour]
		if !reflect.DeepEqual(p, others) {
			t.Errorf("the hour %d: %v, not %v", hour, p, others)
		}
	}
	l, _ := queue.Reason(q)
	overwrite(l, 77)
	if again, _ := queue.Reason(q); !slices.Equal(again, []int{0, 1, 2}) || !reflect.DeepEqual(q, example()) {
		t.Errorf("Reason behind another one: %v; of %v", again, q)
	}
}

// copyOf returns a queue in memory of its own.
func copyOf(q queue.Queue) queue.Queue {
	q.Machines, q.Runs = slices.Clone(q.Machines), slices.Clone(q.Runs)
	for i, stops := range q.Machines {
		q.Machines[i] = slices.Clone(stops)
	}
	for i, r := range q.Runs {
		q.Runs[i].On = slices.Clone(r.On)
	}
	return q
}

// R4: a rest shares nothing with the queue, and its parts not with each other.
func TestMemoryOfRests(t *testing.T) {
	full := example()
	full.Machines[1] = []queue.Range{to(7, 8), to(20, 30)}
	q, p, losses := copyOf(full), examplePlan(), []queue.Loss{loss(1, 2), loss(0, 0)}
	left, e := queue.Rest(q, p, 3, losses)
	if e != api.OK || !reflect.DeepEqual(q, full) || !reflect.DeepEqual(p, examplePlan()) || !slices.Equal(losses, []queue.Loss{loss(1, 2), loss(0, 0)}) {
		t.Fatalf("written to: %v, %v, %v, %v", q, p, losses, e)
	}
	for machine := range left.Machines {
		others := copyOf(left)
		overwrite(left.Machines[machine], to(77, 77))
		others.Machines[machine] = left.Machines[machine]
		if !reflect.DeepEqual(left, others) {
			t.Errorf("the machine %d: %v, not %v", machine, left, others)
		}
	}
	for i := range left.Runs {
		others := copyOf(left)
		overwrite(left.Runs[i].On, !left.Runs[i].On[0])
		others.Runs[i].On = left.Runs[i].On
		if !reflect.DeepEqual(left, others) {
			t.Errorf("the run %d: %v, not %v", i, left, others)
		}
	}
	overwrite(left.Machines, nil)
	overwrite(left.Runs, run(7, 7))
	if !reflect.DeepEqual(q, full) || !reflect.DeepEqual(p, examplePlan()) {
		t.Errorf("the rest shares memory with %v, %v", q, p)
	}
}

// R4, and that nothing is kept between calls.
func TestNothingIsKept(t *testing.T) {
	q, runs, p, losses := example(), []int{0, 1, 2}, examplePlan(), []queue.Loss{loss(1, 2), loss(1, 2)}
	for range 2 {
		queue.CheckQueue(q)
		room, _ := queue.Room(q, runs, 5)
		_, end, _ := queue.Earliest(q)
		l, _ := queue.Reason(q)
		is := queue.ProvePlan(q, p, 6)
		left, _ := queue.Rest(q, p, 3, losses)
		if room != 8 || end != 6 || !slices.Equal(l, []int{0, 1, 2}) || !is || left.Runs[2].Hours != 2 {
			t.Errorf("%d, %d, %v, %v, %v", room, end, l, is, left)
		}
		queue.Earliest(alone(40, 1))
		queue.Reason(free(1, run(0, 40, yes)))
	}
	if !reflect.DeepEqual(q, example()) || !slices.Equal(runs, []int{0, 1, 2}) || !reflect.DeepEqual(p, examplePlan()) || !slices.Equal(losses, []queue.Loss{loss(1, 2), loss(1, 2)}) {
		t.Errorf("written to: %v, %v, %v, %v", q, runs, p, losses)
	}
}
