package queue_test

import (
	"cmp"
	"maps"
	"math/bits"
	"math/rand/v2"
	"slices"
	"testing"

	"tensile/api"
	"tensile/queue"
)

// The functions of this file say word for word what the chapter's definitions do.

func has(r queue.Range, n int) bool { return r.Lo <= n && n <= r.Hi }

func mayBe(q queue.Queue, number, machine, hour int) bool {
	for _, stop := range q.Machines[machine] {
		if has(stop, hour) {
			return false
		}
	}
	return q.Runs[number].On[machine] && hour >= q.Runs[number].Ready
}

// isRight tells whether a plan is right.
func isRight(q queue.Queue, plan [][]int) bool {
	hours := make([]int, len(q.Runs))
	for hour, crew := range plan {
		if len(crew) != len(q.Machines) {
			return false
		}
		busy := map[int]bool{}
		for machine, number := range crew {
			if number == idle {
				continue
			}
			if number < 0 || number >= len(q.Runs) || busy[number] || hour >= api.MaxQueueHours || !mayBe(q, number, machine, hour) {
				return false
			}
			busy[number] = true
			hours[number]++
		}
	}
	for number, r := range q.Runs {
		if hours[number] != r.Hours {
			return false
		}
	}
	return len(plan) <= api.MaxQueueHours
}

func isStill(crew []int) bool {
	return !slices.ContainsFunc(crew, func(number int) bool { return number != idle })
}

// endOf returns the end of a plan.
func endOf(plan [][]int) int {
	for len(plan) > 0 && isStill(plan[len(plan)-1]) {
		plan = plan[:len(plan)-1]
	}
	return len(plan)
}

// set has runs as bits.
type set uint

func (s set) has(number int) bool { return s>>number&1 == 1 }

func setOf(runs []int) set {
	var s set
	for _, number := range runs {
		s |= 1 << number
	}
	return s
}

// together returns all sets of runs that may be on machines at an hour, each on another one.
func together(q queue.Queue, hour int) map[set]bool {
	all := map[set]bool{0: true}
	for machine := range q.Machines {
		more := maps.Clone(all)
		for s := range all {
			for number := range q.Runs {
				if !s.has(number) && mayBe(q, number, machine, hour) {
					more[s|1<<number] = true
				}
			}
		}
		all = more
	}
	return all
}

// house is a queue with the room of all sets of its runs, up to all hours.
type house struct {
	queue.Queue
	sets [api.MaxQueueHours]map[set]bool
	room [api.MaxQueueHours + 1][1 << api.MaxQueueRuns]int
}

func openHouse(q queue.Queue) *house {
	h := &house{Queue: q}
	for hour := range h.sets {
		h.sets[hour] = together(q, hour)
		for runs := range set(1) << len(q.Runs) {
			most := 0
			for s := range h.sets[hour] {
				most = max(most, bits.OnesCount(uint(s&runs)))
			}
			h.room[hour+1][runs] = h.room[hour][runs] + most
		}
	}
	return h
}

func (h *house) lack(runs []int, until int) bool {
	hours := 0
	for _, number := range runs {
		hours += h.Runs[number].Hours
	}
	return hours > h.room[until][setOf(runs)]
}

// lists returns all rising lists of numbers below one, the shortest ones first, and the least ones of those.
func lists(below int) [][]int {
	all := [][]int{nil}
	for n := range below {
		for _, list := range all {
			all = append(all, append(slices.Clone(list), n))
		}
	}
	slices.SortFunc(all, func(a, b []int) int { return cmp.Or(cmp.Compare(len(a), len(b)), slices.Compare(a, b)) })
	return all
}

// lacking returns the first list that lacks something up to an hour, and whether there is one.
func (h *house) lacking(until int) ([]int, bool) {
	for _, runs := range lists(len(h.Runs)) {
		if h.lack(runs, until) {
			return runs, true
		}
	}
	return nil, false
}

// needs is how many hours each run needs more.
type needs [api.MaxQueueRuns]int

// behind returns what is needed behind an hour at which the runs of a set are on machines, if all of them need it.
func (n needs) behind(s set) (needs, bool) {
	for number := range n {
		if !s.has(number) {
			continue
		}
		if n[number] == 0 {
			return needs{}, false
		}
		n[number]--
	}
	return n, true
}

// earliest returns the earliest end of all plans, and whether there is a right one.
func (h *house) earliest() (int, bool) {
	var first needs
	for number, r := range h.Runs {
		first[number] = r.Hours
	}
	all := map[needs]bool{first: true}
	for hour, sets := range h.sets {
		if all[needs{}] {
			return hour, true
		}
		next := map[needs]bool{}
		for n := range all {
			for s := range sets {
				if left, is := n.behind(s); is {
					next[left] = true
				}
			}
		}
		all = next
	}
	return api.MaxQueueHours, all[needs{}]
}

// restByHand returns the rest of a queue by a right plan.
func restByHand(q queue.Queue, plan [][]int, hour int, losses []queue.Loss) queue.Queue {
	q = copyOf(q)
	for i := range q.Runs {
		for h := 0; h < hour && h < len(plan); h++ {
			machine := slices.Index(plan[h], i)
			if machine >= 0 && !slices.Contains(losses, loss(machine, h)) {
				q.Runs[i].Hours--
			}
		}
		if q.Runs[i].Ready < hour {
			q.Runs[i].Ready = hour
		}
	}
	return q
}

// isSame tells whether queues are, however empty lists are told.
func isSame(q, other queue.Queue) bool {
	isSameRun := func(r, x queue.Run) bool {
		return r.Hours == x.Hours && r.Ready == x.Ready && slices.Equal(r.On, x.On)
	}
	return slices.EqualFunc(q.Machines, other.Machines, slices.Equal[[]queue.Range]) && slices.EqualFunc(q.Runs, other.Runs, isSameRun)
}

func between(dice *rand.Rand, low, high int) int { return low + dice.IntN(high-low+1) }

// making tells how great queues are at most, and by which hour their stops begin.
type making struct{ machines, runs, hours, ready, stops, last int }

func small() making { return making{3, 3, 4, 4, 2, 8} }

func middling() making { return making{3, 4, 5, 10, 3, 15} }

func large() making { return making{4, 6, 16, 20, 6, 39} }

// queue returns a queue; runs may be on many machines or on few, and be ready early or late.
func (m making) queue(dice *rand.Rand) queue.Queue {
	var q queue.Queue
	if dice.IntN(10) > 0 {
		q.Machines = make([][]queue.Range, min(between(dice, 1, m.machines), between(dice, 1, m.machines)))
	}
	stops := between(dice, 0, m.stops)
	for machine := range q.Machines {
		for range between(dice, 0, stops) {
			low := between(dice, 0, m.last)
			q.Machines[machine] = append(q.Machines[machine], to(low, min(39, low+dice.IntN(4))))
		}
	}
	hours, ready, rarity := between(dice, 1, m.hours), between(dice, 0, m.ready), between(dice, 2, 9)
	for range max(between(dice, 0, m.runs), between(dice, 0, m.runs)) {
		r := run(between(dice, 0, hours), between(dice, 0, ready))
		for range q.Machines {
			r.On = append(r.On, dice.IntN(rarity) > 0)
		}
		q.Runs = append(q.Runs, r)
	}
	return q
}

// planned returns a queue, and a right plan of it that was made ahead.
func (m making) planned(dice *rand.Rand) (queue.Queue, [][]int) {
	q := m.queue(dice)
	for i := range q.Runs {
		q.Runs[i].Hours = 0
	}
	var plan [][]int
	rarity := between(dice, 1, 4)
	for hour := range between(dice, 0, m.last+1) {
		var crew []int
		for machine := range q.Machines {
			number := idle
			if len(q.Runs) > 0 && dice.IntN(rarity) == 0 {
				number = dice.IntN(len(q.Runs))
			}
			if number != idle && (slices.Contains(crew, number) || !mayBe(q, number, machine, hour) || q.Runs[number].Hours == m.hours) {
				number = idle
			}
			if number != idle {
				q.Runs[number].Hours++
			}
			crew = append(crew, number)
		}
		plan = append(plan, crew)
	}
	return q, plan
}

// some brings queues of a size; half of them have a right plan.
func (m making) some(number int) func(func(*rand.Rand, queue.Queue) bool) {
	return func(bring func(*rand.Rand, queue.Queue) bool) {
		dice := rand.New(rand.NewPCG(10, uint64(m.hours)))
		for i := range number {
			q := m.queue(dice)
			if i%2 == 0 {
				q, _ = m.planned(dice)
			}
			if !bring(dice, q) {
				return
			}
		}
	}
}

// counts tell how often tests met what they are about.
type counts map[string]int

func (k counts) areLess(t *testing.T, than int, names ...string) {
	t.Helper()
	for _, name := range names {
		if k[name] < than {
			t.Errorf("%s: only %d of %v", name, k[name], k)
		}
	}
}

// P10.1
func TestRoomByHand(t *testing.T) {
	k := counts{}
	for _, m := range []making{small(), middling(), large()} {
		for dice, q := range m.some(150) {
			h := openHouse(q)
			for _, runs := range lists(len(q.Runs)) {
				for _, hour := range []int{0, 1, dice.IntN(41), dice.IntN(41), 40} {
					want := h.room[hour][setOf(runs)]
					if n, e := queue.Room(q, runs, hour); n != want || e != api.OK {
						t.Fatalf("Room of %v, %v up to %d: %d, %v, not %d", q, runs, hour, n, e, want)
					}
					if want > 0 && want < hour*min(len(runs), len(q.Machines)) {
						k["not all"]++
					}
				}
			}
		}
	}
	k.areLess(t, 3000, "not all")
}

// isEarliest holds the plan and the reason of a queue against its rooms. Runs that lack something prove that no right plan ends by then.
func isEarliest(t *testing.T, h *house, k counts) (int, bool) {
	t.Helper()
	q := h.Queue
	p, end, e := queue.Earliest(q)
	reason, f := queue.Reason(q)
	if e != api.OK && e != api.ErrFail || len(p) != end {
		t.Fatalf("Earliest of %v: %v, %d, %v", q, p, end, e)
	}
	if e == api.OK && (!isRight(q, p) || endOf(p) != end) {
		t.Fatalf("Earliest of %v: %v, %d", q, p, end)
	}
	if e == api.OK && end == 0 {
		k["nothing"]++
		if len(reason) != 0 || f != api.ErrNone {
			t.Fatalf("Reason of %v: %v, %v", q, reason, f)
		}
		return 0, true
	}
	before := end - 1
	if e == api.ErrFail {
		before = 40
		k["no plan"]++
	}
	want, is := h.lacking(before)
	if !is || !slices.Equal(reason, want) || f != api.OK {
		t.Fatalf("Earliest of %v: %d, %v; Reason: %v, %v, not %v", q, end, e, reason, f, want)
	}
	k["reasons"]++
	if len(reason) > 1 {
		k["reasons of several"]++
	}
	if len(reason) > 2 {
		k["reasons of many"]++
	}
	return end, e == api.OK
}

// P10.2, P10.3: all plans, hour by hour.
func TestAllPlans(t *testing.T) {
	k := counts{}
	for size, number := range map[making]int{small(): 2000, middling(): 500} {
		for _, q := range size.some(number) {
			h := openHouse(q)
			end, is := isEarliest(t, h, k)
			if want, there := h.earliest(); is != there || is && end != want {
				t.Fatalf("Earliest of %v: %d, %v, not %d, %v", q, end, is, want, there)
			}
		}
	}
	k.areLess(t, 200, "nothing", "no plan", "reasons of several")
	k.areLess(t, 50, "reasons of many")
}

// P10.2, P10.3: large queues, by their reasons.
func TestLargeQueues(t *testing.T) {
	k := counts{}
	for _, q := range large().some(800) {
		if end, is := isEarliest(t, openHouse(q), k); is && end > 20 {
			k["late"]++
		}
	}
	k.areLess(t, 50, "no plan", "late", "reasons of several", "reasons of many")
}

// spoil changes a plan, mostly so that it is not right any more.
func spoil(dice *rand.Rand, q queue.Queue, plan [][]int) [][]int {
	plan = slices.Clone(plan)
	for hour, crew := range plan {
		plan[hour] = slices.Clone(crew)
	}
	if len(plan) == 0 || len(q.Machines) == 0 {
		return append(plan, make([]int, len(q.Machines)))
	}
	hour, machine := dice.IntN(len(plan)), dice.IntN(len(q.Machines))
	other, beside := dice.IntN(len(plan)), dice.IntN(len(q.Machines))
	switch dice.IntN(6) {
	case 0:
		plan[hour][machine] = between(dice, -2, len(q.Runs))
	case 1:
		plan[hour][machine], plan[hour][beside] = plan[hour][beside], plan[hour][machine]
	case 2:
		plan[hour], plan[other] = plan[other], plan[hour]
	case 3:
		plan[hour][machine], plan[other][beside] = plan[other][beside], plan[hour][machine]
	case 4:
		plan[hour] = append(plan[hour], idle)
	case 5:
		plan = slices.Delete(plan, hour, hour+1)
	}
	return plan
}

// P10.4
func TestProvePlanByHand(t *testing.T) {
	k := counts{}
	for _, m := range []making{small(), middling(), large()} {
		for dice := range m.some(3000) {
			q, p := m.planned(dice)
			if !isRight(q, p) {
				t.Fatalf("%v by %v", q, p)
			}
			for range dice.IntN(3) {
				p = spoil(dice, q, p)
			}
			end := between(dice, max(0, endOf(p)-2), endOf(p)+2)
			want := isRight(q, p) && endOf(p) <= end
			if is := queue.ProvePlan(q, p, end); is != want {
				t.Fatalf("ProvePlan of %v, %v, %d: %v", q, p, end, is)
			}
			switch {
			case want:
				k["right"]++
			case isRight(q, p):
				k["too late"]++
			default:
				k["not right"]++
			}
		}
	}
	k.areLess(t, 1000, "right", "too late", "not right")
}

// someLosses returns losses of a queue; some of them are the same.
func someLosses(dice *rand.Rand, q queue.Queue) []queue.Loss {
	var all []queue.Loss
	last := between(dice, 1, 40)
	for range dice.IntN(12) {
		if len(q.Machines) > 0 {
			all = append(all, loss(dice.IntN(len(q.Machines)), dice.IntN(last)))
		}
		if len(all) > 0 && dice.IntN(3) == 0 {
			all = append(all, all[dice.IntN(len(all))])
		}
	}
	return all
}

// P10.5
func TestRestByHand(t *testing.T) {
	k := counts{}
	for _, m := range []making{small(), middling(), large()} {
		for dice := range m.some(2000) {
			q, p := m.planned(dice)
			hour, losses := min(40, between(dice, 0, m.last+2)), someLosses(dice, q)
			want := restByHand(q, p, hour, losses)
			left, e := queue.Rest(q, p, hour, losses)
			if e != api.OK || !isSame(left, want) {
				t.Fatalf("Rest of %v, %v at %d, %v: %v, %v, not %v", q, p, hour, losses, left, e, want)
			}
			if !isSame(want, restByHand(q, p, hour, nil)) {
				k["lost"]++
			}
		}
	}
	k.areLess(t, 500, "lost")
}
