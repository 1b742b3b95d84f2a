package queue_test

import (
	"math/rand/v2"
	"slices"
	"testing"

	"tensile/api"
	"tensile/queue"
)

// never is later than all ends.
const never = api.MaxQueueHours + 1

// earliestOf returns the plan, and the earliest end, or never.
func earliestOf(t *testing.T, q queue.Queue) ([][]int, int) {
	t.Helper()
	p, end, e := queue.Earliest(q)
	switch {
	case e == api.ErrFail:
		return nil, never
	case e != api.OK || end < 0 || end > 40:
		t.Fatalf("Earliest of %v: %v, %d, %v", q, p, end, e)
	}
	return p, end
}

func endOfQueue(t *testing.T, q queue.Queue) int {
	t.Helper()
	_, end := earliestOf(t, q)
	return end
}

func roomIn(t *testing.T, q queue.Queue, runs []int, hour int) int {
	t.Helper()
	n, e := queue.Room(q, runs, hour)
	if e != api.OK {
		t.Fatalf("Room of %v, %v up to %d: %v", q, runs, hour, e)
	}
	return n
}

func hoursOf(q queue.Queue, runs []int) int {
	all := 0
	for _, number := range runs {
		all += q.Runs[number].Hours
	}
	return all
}

// queues brings those of all sizes.
func queues(number int) func(func(*rand.Rand, queue.Queue) bool) {
	return func(bring func(*rand.Rand, queue.Queue) bool) {
		for _, m := range []making{small(), middling(), large()} {
			for dice, q := range m.some(number) {
				if !bring(dice, q) {
					return
				}
			}
		}
	}
}

// P10.6
func TestPlanIsRight(t *testing.T) {
	k := counts{}
	for _, q := range queues(400) {
		p, end := earliestOf(t, q)
		if end == never {
			continue
		}
		if !isRight(q, p) || len(p) != end || end > 0 && isStill(p[end-1]) {
			t.Fatalf("Earliest of %v: %v, %d", q, p, end)
		}
		if !queue.ProvePlan(q, p, end) || queue.ProvePlan(q, p, end-1) {
			t.Fatalf("ProvePlan of %v, %v, %d", q, p, end)
		}
		for number := range q.Runs {
			on := map[int]bool{}
			for _, crew := range p {
				if machine := slices.Index(crew, number); machine >= 0 {
					on[machine] = true
				}
			}
			if len(on) > 1 {
				k["on several machines"]++
			}
		}
		k["plans"]++
	}
	k.areLess(t, 200, "plans", "on several machines")
}

// P10.7
func TestReasonLacks(t *testing.T) {
	k := counts{}
	for _, q := range queues(300) {
		end := endOfQueue(t, q)
		for _, runs := range lists(len(q.Runs)) {
			if end != never && hoursOf(q, runs) > roomIn(t, q, runs, end) {
				t.Fatalf("%v: %v lack something up to the end %d", q, runs, end)
			}
		}
		if end == 0 {
			continue
		}
		reason, e := queue.Reason(q)
		if e != api.OK || len(reason) == 0 || hoursOf(q, reason) <= roomIn(t, q, reason, end-1) {
			t.Fatalf("Reason of %v: %v, %v; the end is %d", q, reason, e, end)
		}
		for _, runs := range lists(len(q.Runs)) {
			if len(runs) < len(reason) && hoursOf(q, runs) > roomIn(t, q, runs, end-1) {
				t.Fatalf("Reason of %v: %v, but %v lack something", q, reason, runs)
			}
		}
		k["reasons"]++
	}
	k.areLess(t, 500, "reasons")
}

// easier returns a queue that is easier by one number, and by which one.
func easier(dice *rand.Rand, q queue.Queue) (queue.Queue, string) {
	q = copyOf(q)
	number, machine := dice.IntN(len(q.Runs)), dice.IntN(len(q.Machines))
	r, stops := &q.Runs[number], q.Machines[machine]
	switch dice.IntN(4) {
	case 0:
		r.Hours = between(dice, 0, r.Hours)
		return q, "Hours"
	case 1:
		r.Ready = between(dice, 0, r.Ready)
		return q, "Ready"
	case 2:
		r.On[machine] = yes
		return q, "On"
	}
	if len(stops) > 0 {
		i := dice.IntN(len(stops))
		q.Machines[machine] = slices.Delete(stops, i, i+1)
	}
	return q, "a stop"
}

// P10.8
func TestEasier(t *testing.T) {
	k := counts{}
	for dice, q := range queues(1500) {
		if len(q.Runs) == 0 || len(q.Machines) == 0 {
			continue
		}
		end := endOfQueue(t, q)
		other, by := easier(dice, q)
		switch soon := endOfQueue(t, other); {
		case soon > end:
			t.Fatalf("%v ends at %d, easier by %s at %d", q, end, by, soon)
		case soon < end:
			k[by]++
		}
	}
	k.areLess(t, 25, "Hours", "Ready", "On", "a stop")
}

// P10.8
func TestOneRunMore(t *testing.T) {
	k := counts{}
	for dice, q := range queues(500) {
		if len(q.Runs) == 0 {
			continue
		}
		i := dice.IntN(len(q.Runs))
		fewer := copyOf(q)
		fewer.Runs = slices.Delete(fewer.Runs, i, i+1)
		switch late, soon := endOfQueue(t, q), endOfQueue(t, fewer); {
		case late < soon:
			t.Fatalf("%v ends at %d, without %d at %d", q, late, i, soon)
		case late > soon:
			k["later"]++
		}
	}
	k.areLess(t, 200, "later")
}

// P10.9
func TestAsIfNothingHadBeen(t *testing.T) {
	k := counts{}
	for dice, q := range queues(500) {
		p, end := earliestOf(t, q)
		if end == never {
			continue
		}
		for _, hour := range []int{0, dice.IntN(end + 1), end, dice.IntN(41), 40} {
			left, e := queue.Rest(q, p, hour, nil)
			if e != api.OK || queue.CheckQueue(left) != api.OK {
				t.Fatalf("Rest of %v, %v at %d: %v, %v", q, p, hour, left, e)
			}
			want := end
			if hoursOf(left, lists(len(q.Runs))[1<<len(q.Runs)-1]) == 0 {
				want = 0
			}
			if again := endOfQueue(t, left); again != want {
				t.Fatalf("Rest of %v, %v at %d: %v ends at %d, not %d", q, p, hour, left, again, want)
			}
			if 0 < hour && hour < end {
				k["between"]++
			}
		}
	}
	k.areLess(t, 300, "between")
}

// ranBy returns for how many hours a plan has a run on machines before an hour, and how many of them are lost.
func ranBy(plan [][]int, number, hour int, losses []queue.Loss) (hours, lost int) {
	for h, crew := range plan[:min(hour, len(plan))] {
		if machine := slices.Index(crew, number); machine >= 0 {
			hours++
			if slices.Contains(losses, loss(machine, h)) {
				lost++
			}
		}
	}
	return hours, lost
}

// P10.9: with losses each run goes on for what it lost.
func TestLosses(t *testing.T) {
	k := counts{}
	for dice, q := range queues(1000) {
		p, end := earliestOf(t, q)
		if end == never {
			continue
		}
		hour, losses := dice.IntN(min(40, end+1)+1), someLosses(dice, q)
		left, e := queue.Rest(q, p, hour, losses)
		if e != api.OK {
			t.Fatalf("Rest of %v, %v at %d, %v: %v", q, p, hour, losses, e)
		}
		further, late := earliestOf(t, left)
		if without, _ := queue.Rest(q, p, hour, nil); late < endOfQueue(t, without) || late > 0 && late < end {
			t.Fatalf("Rest of %v, %v at %d, %v: ends at %d, not at %d", q, p, hour, losses, late, end)
		}
		if late == never {
			k["too late"]++
			continue
		}
		for number, r := range q.Runs {
			before, lost := ranBy(p, number, hour, losses)
			behind, _ := ranBy(further, number, late, nil)
			if before+behind != r.Hours+lost {
				t.Fatalf("Rest of %v, %v at %d, %v: %d runs for %d and %d hours", q, p, hour, losses, number, before, behind)
			}
			if lost > 0 {
				k["lost"]++
			}
		}
		if late > end {
			k["later"]++
		}
	}
	k.areLess(t, 200, "lost", "later")
}

// shuffled returns a queue with runs and machines in another order.
func shuffled(dice *rand.Rand, q queue.Queue) queue.Queue {
	q = copyOf(q)
	dice.Shuffle(len(q.Runs), func(i, j int) { q.Runs[i], q.Runs[j] = q.Runs[j], q.Runs[i] })
	dice.Shuffle(len(q.Machines), func(i, j int) {
		q.Machines[i], q.Machines[j] = q.Machines[j], q.Machines[i]
		for _, r := range q.Runs {
			r.On[i], r.On[j] = r.On[j], r.On[i]
		}
	})
	for _, stops := range q.Machines {
		dice.Shuffle(len(stops), func(i, j int) { stops[i], stops[j] = stops[j], stops[i] })
	}
	return q
}

// P10.10, P6
func TestOrder(t *testing.T) {
	k := counts{}
	for dice, q := range queues(400) {
		other := shuffled(dice, q)
		end, again := endOfQueue(t, q), endOfQueue(t, other)
		reason, _ := queue.Reason(q)
		others, _ := queue.Reason(other)
		if end != again || len(reason) != len(others) {
			t.Fatalf("%v ends at %d by %v, %v at %d by %v", q, end, reason, other, again, others)
		}
		if !isSame(q, other) {
			k["others"]++
		}
	}
	k.areLess(t, 400, "others")
}

// P10.11
func TestInTwo(t *testing.T) {
	k := counts{}
	for dice, q := range queues(1000) {
		if len(q.Runs) == 0 || len(q.Runs) == api.MaxQueueRuns {
			continue
		}
		two := copyOf(q)
		r := &two.Runs[dice.IntN(len(q.Runs))]
		part := between(dice, 0, r.Hours)
		r.Hours -= part
		two.Runs = append(two.Runs, run(part, r.Ready, r.On...))
		switch end, soon := endOfQueue(t, q), endOfQueue(t, two); {
		case soon > end:
			t.Fatalf("%v ends at %d, in two at %d: %v", q, end, soon, two)
		case soon < end:
			k["sooner"]++
		}
	}
	k.areLess(t, 50, "sooner")
}

// P10.12
func TestRoomGrows(t *testing.T) {
	k := counts{}
	for dice, q := range queues(100) {
		for _, runs := range lists(len(q.Runs)) {
			room := 0
			for hour := range 41 {
				n := roomIn(t, q, runs, hour)
				if n < room || n > room+min(len(runs), len(q.Machines)) || hour == 0 && n != 0 {
					t.Fatalf("Room of %v, %v up to %d: %d, behind %d", q, runs, hour, n, room)
				}
				if n == room && hour > 0 && len(runs) > 0 {
					k["no room"]++
				}
				room = n
			}
			if len(runs) == 0 {
				continue
			}
			i, hour := dice.IntN(len(runs)), dice.IntN(41)
			fewer := slices.Delete(slices.Clone(runs), i, i+1)
			if n, all := roomIn(t, q, fewer, hour), roomIn(t, q, runs, hour); n > all {
				t.Fatalf("Room of %v up to %d: %d of %v, %d of %v", q, hour, n, fewer, all, runs)
			} else if n < all {
				k["more runs"]++
			}
		}
	}
	k.areLess(t, 300, "no room", "more runs")
}

// anyQueue returns a queue of which most numbers are as they should be, or none is.
func anyQueue(dice *rand.Rand, number func() int) queue.Queue {
	q := []making{small(), middling(), large()}[dice.IntN(3)].queue(dice)
	rarity := between(dice, 1, 20)
	for _, stops := range q.Machines {
		for i := range stops {
			if dice.IntN(rarity) == 0 {
				stops[i] = to(number(), number())
			}
		}
	}
	for i := range q.Runs {
		if r := &q.Runs[i]; dice.IntN(rarity) == 0 {
			r.Hours, r.Ready = number(), number()
		}
	}
	switch dice.IntN(15) {
	case 0:
		q.Machines = append(q.Machines, make([][]queue.Range, dice.IntN(4))...)
	case 1:
		q.Runs = append(q.Runs, make([]queue.Run, dice.IntN(6))...)
	case 2:
		q.Machines = append(q.Machines, make([]queue.Range, dice.IntN(12)))
	}
	return q
}

// P1: whatever the arguments are.
func TestAnyArguments(t *testing.T) {
	dice := rand.New(rand.NewPCG(10, 6))
	number := func() int {
		return []int{between(dice, -1, 6), between(dice, -2, 43), int(dice.Uint64())}[dice.IntN(3)]
	}
	k := counts{}
	for range 3000 {
		q := anyQueue(dice, number)
		var runs []int
		for range dice.IntN(5) {
			runs = append(runs, number())
		}
		p := make([][]int, dice.IntN(8))
		for i := range p {
			for range dice.IntN(5) {
				p[i] = append(p[i], number())
			}
		}
		losses := []queue.Loss{loss(number(), number())}
		e := queue.CheckQueue(q)
		k[e.Error()]++
		_, e = queue.Room(q, runs, number())
		k["Room "+e.Error()]++
		queue.Earliest(q)
		queue.Reason(q)
		queue.ProvePlan(q, p, number())
		queue.Rest(q, p, number(), losses)
		queue.Rest(free(4), nil, number(), losses)
	}
	k.areLess(t, 150, api.OK.Error(), api.ErrArg.Error(), api.ErrLimit.Error(), "Room "+api.ErrRange.Error(), "Room "+api.OK.Error())
}
