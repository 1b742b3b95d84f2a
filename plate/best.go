package plate

import (
	"iter"
	"slices"

	"tensile/api"
)

// flags tell of each specimen whether it is wanted.
type flags [api.MaxPlateWanted]bool

func just(i int) flags {
	var f flags
	f[i] = true
	return f
}

func (f flags) without(g flags) flags {
	for i, is := range g {
		f[i] = f[i] && !is
	}
	return f
}

// numbers returns the specimens that are wanted.
func (f flags) numbers() []int {
	var all []int
	for i, is := range f {
		if is {
			all = append(all, i)
		}
	}
	return all
}

// subsets brings all flags by which nothing else is wanted.
func (f flags) subsets() iter.Seq[flags] {
	return func(bring func(flags) bool) {
		for code := range 1 << len(f) {
			var g flags
			for i := range g {
				g[i] = code>>i&1 == 1
			}
			if g.without(f) == (flags{}) && !bring(g) {
				return
			}
		}
	}
}

// task is a piece, with what is still wanted of it.
type task struct {
	Piece
	wanted flags
}

// way is how a task is done by the fewest cuts: the first one makes other tasks of it. Without cuts the piece is what is wanted, or nothing is.
type way struct {
	cuts  int
	first Cut
	rest  []task
}

// never stands for the cuts of a task that cannot be done. Those of others are fewer, as each makes one more piece, or takes a unit away as chips.
const never = api.MaxPlateSide * api.MaxPlateSide

// isReady reports whether a task needs no cut.
func (p Plate) isReady(t task) bool {
	if t.wanted == (flags{}) {
		return true
	}
	for i, w := range p.Wanted {
		if t.wanted == just(i) {
			return w.fits(t.Piece)
		}
	}
	return false
}

// hasRoom reports whether a task's piece has room for each specimen, if not for all together.
func (p Plate) hasRoom(t task) bool {
	room := func(i int, w Wanted) bool { return !t.wanted[i] || w.hasRoom(t.Piece) }
	return each(p.Wanted, room)
}

// cutsThrough brings all cuts that can go through a piece; its number is left open.
func (p Plate) cutsThrough(old Piece) iter.Seq[Cut] {
	return func(bring func(Cut) bool) {
		for _, across := range []bool{false, true} {
			for at := range api.MaxPlateSide {
				c := Cut{Across: across, At: at}
				if p.canCut(old, c) && !bring(c) {
					return
				}
			}
		}
	}
}

// share brings all tasks by which one or two new pieces become what was wanted of the old one.
func (t task) share(pieces []Piece) iter.Seq[[]task] {
	return func(bring func([]task) bool) {
		if len(pieces) == 1 {
			bring([]task{{pieces[0], t.wanted}})
			return
		}
		for f := range t.wanted.subsets() {
			if !bring([]task{{pieces[0], f}, {pieces[1], t.wanted.without(f)}}) {
				return
			}
		}
	}
}

// begin brings each cut by which a task can be begun, with the tasks that this can make of it.
func (p Plate) begin(t task) iter.Seq2[Cut, []task] {
	return func(bring func(Cut, []task) bool) {
		for c := range p.cutsThrough(t.Piece) {
			for rest := range t.share(slices.Collect(p.newPieces(t.Piece, c))) {
				if !bring(c, rest) {
					return
				}
			}
		}
	}
}

// ways returns a function that finds how a task is done. What it has found is kept, as many cuttings come to the same task.
func (p Plate) ways() func(task) way {
	kept := map[task]way{}
	var find func(task) way
	find = func(t task) way {
		if p.isReady(t) {
			return way{}
		}
		if !p.hasRoom(t) {
			return way{cuts: never}
		}
		best, known := kept[t]
		if known {
			return best
		}
		best = way{cuts: never}
		for first, rest := range p.begin(t) {
			cuts := 1
			for _, next := range rest {
				if cuts < best.cuts {
					cuts += find(next).cuts
				}
			}
			if cuts < best.cuts {
				best = way{cuts, first, rest}
			}
		}
		kept[t] = best
		return best
	}
	return find
}

// worthOf returns that of all specimens that are wanted.
func (p Plate) worthOf(wanted flags) int {
	sum := 0
	for _, i := range wanted.numbers() {
		sum += p.Wanted[i].Worth
	}
	return sum
}

// best returns a best plan, and its worth.
func (p Plate) best() (Plan, int) {
	find := p.ways()
	var all, taken flags
	for i := range p.Wanted {
		all[i] = true
	}
	most, fewest := 0, 0
	for f := range all.subsets() {
		worth, cuts := p.worthOf(f), find(task{p.whole(), f}).cuts
		if cuts < never && (worth > most || worth == most && cuts < fewest) {
			taken, most, fewest = f, worth, cuts
		}
	}
	return p.planOf(task{p.whole(), taken}, find), most
}

// planOf returns the plan that does a task of the whole plate. The tasks are gone through in the order of their pieces' numbers, so that new pieces get the next ones.
func (p Plate) planOf(all task, find func(task) way) Plan {
	x := Plan{Uses: slices.Repeat([]int{unused}, len(p.Wanted))}
	tasks := []task{all}
	for number := 0; number < len(tasks); number++ {
		t := tasks[number]
		w := find(t)
		if w.cuts > 0 {
			x.Cuts = append(x.Cuts, Cut{number, w.first.Across, w.first.At})
			tasks = append(tasks, w.rest...)
			continue
		}
		for _, i := range t.wanted.numbers() {
			x.Uses[i] = number
		}
	}
	return x
}
