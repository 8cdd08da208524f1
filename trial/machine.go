package trial

import (
	"slices"
	"strconv"

	"quadrille/api"
	"quadrille/core"
)

// Machine is what is tried: a thread for each program, and cells as they are at first.
type Machine struct {
	Programs [][]api.Ins
	Cells    []uint64
	// Now tells what is wrong with a machine behind each move, Last what is wrong where nobody goes on any more; "" is nothing.
	Now, Last func(c *core.Core) string
}

// Some tries one order: pick(n), a number from 0 to n - 1, tells who goes on, how far, and who is woken for nothing; those who aren't at their ends then go on in turns. It answers what is wrong; "" is nothing.
func (m Machine) Some(pick func(n int) int) string {
	r, err := m.start()
	if err != nil {
		return err.Error()
	}
	n := len(m.Programs)
	// Who is woken for nothing doesn't miss a wake: so in half of the orders nobody is.
	pokes := pick(2) == 0
	for range 100 * n {
		var moves []api.Move
		if pokes && pick(8) == 0 {
			moves = append(moves, api.Move{Thread: pick(n), Poke: true})
		}
		moves = append(moves, slices.Repeat([]api.Move{{Thread: pick(n)}}, 1+pick(9))...)
		for _, x := range moves {
			if wrong := m.after(r, x); wrong != "" {
				return wrong
			}
		}
	}
	return m.finish(r)
}

// link is a state, by the move that leads there from another one.
type link struct {
	from int
	move api.Move
}

// All tries all orders: it looks for each state that can be reached, from which all go on in turns. It answers how many there are, and what is wrong; "" is nothing.
func (m Machine) All() (int, string) {
	known := map[string]bool{}
	links := []link{{from: -1}}
	for k := 0; k < len(links); k++ {
		for _, x := range m.moves() {
			r, err := m.start()
			if err != nil {
				return k, err.Error()
			}
			r.play(links, k)
			if !r.move(x) {
				continue
			}
			// What was said on another way to a known state is looked at, too.
			if wrong := m.Now(r.core); wrong != "" {
				return len(links), wrong
			}
			state := r.state()
			if known[state] {
				continue
			}
			known[state] = true
			links = append(links, link{k, x})
			if wrong := m.finish(r); wrong != "" {
				return len(links), wrong
			}
		}
	}
	return len(links), ""
}

// moves are all that may be next.
func (m Machine) moves() []api.Move {
	var l []api.Move
	for t := range m.Programs {
		l = append(l, api.Move{Thread: t}, api.Move{Thread: t, Poke: true})
	}
	return l
}

// start is a machine that is new.
func (m Machine) start() (*run, error) {
	c, err := core.New(m.Programs, m.Cells)
	if err != nil {
		return nil, err
	}
	return &run{core: c}, nil
}

// after makes a move, if it can be made, and tells what is wrong then.
func (m Machine) after(r *run, x api.Move) string {
	if !r.move(x) {
		return ""
	}
	return m.Now(r.core)
}

// finish lets all go on in turns, till none can, and tells what is wrong by then.
func (m Machine) finish(r *run) string {
	for before := -1; before < r.core.Steps(); {
		before = r.core.Steps()
		for t := range m.Programs {
			if wrong := m.after(r, api.Move{Thread: t}); wrong != "" {
				return wrong
			}
		}
	}
	return m.Last(r.core)
}

// run is a machine that goes on, and who sleeps, those first that fell asleep first.
type run struct {
	core   *core.Core
	asleep []int
}

// move is whether a move can be made; it is made then.
func (r *run) move(x api.Move) bool {
	todo := r.core.Step
	if x.Poke {
		todo = r.core.Poke
	}
	if todo(x.Thread) != nil {
		return false
	}
	r.asleep = slices.DeleteFunc(r.asleep, func(t int) bool { return r.cell(t) < 0 })
	// Who moved was awake, or is: so it sleeps now only if it just fell asleep.
	if r.cell(x.Thread) >= 0 {
		r.asleep = append(r.asleep, x.Thread)
	}
	return true
}

// cell is where a thread sleeps; -1: it doesn't.
func (r *run) cell(t int) int {
	_, cell, err := r.core.At(t)
	if err != nil {
		return -1
	}
	return cell
}

// play makes the moves that lead to a state.
func (r *run) play(links []link, at int) {
	if links[at].from < 0 {
		return
	}
	r.play(links, links[at].from)
	r.move(links[at].move)
}

// state is all that what is yet to come hangs on, where it stands, and what each thread said, as Now and Last may look at that. (What a thread has in its registers is told by what it knows of the cells, and by where it is and how much it said.)
func (r *run) state() string {
	var b []byte
	for _, x := range r.core.Cells() {
		b = strconv.AppendUint(append(b, ' '), x, 10)
	}
	said := make([][]int, r.core.Threads())
	for _, e := range r.core.Events() {
		said[e.Thread] = append(said[e.Thread], e.What, e.Value)
	}
	for t, known := range r.knows() {
		at, cell, err := r.core.At(t)
		if err != nil {
			at = -1
		}
		b = append(b, list(at, cell, r.ahead(t), len(said[t]))...)
		b = append(b, list(said[t]...)...)
		b = strconv.AppendUint(append(b, ' '), known.read, 10)
		b = strconv.AppendBool(append(b, ' '), known.swapped)
		if known.changed {
			b = strconv.AppendUint(append(b, ' '), known.was, 10)
		}
		if known.fetched {
			b = strconv.AppendUint(append(b, " had "...), known.had, 10)
		}
	}
	return string(b)
}

// known is what a thread may know of the cells: what it last read; whether it swapped, if that was the last thing it did to a cell; and what was there when it last swapped, and when it last fetched, since it last said something.
type known struct {
	read                      uint64
	swapped, changed, fetched bool
	was, had                  uint64
}

// knows is what each thread may know.
func (r *run) knows() []known {
	l, said := make([]known, r.core.Threads()), make([]int, r.core.Threads())
	for _, e := range r.core.Events() {
		said[e.Thread] = e.When
	}
	for _, a := range r.core.Acts() {
		k := &l[a.Thread]
		if a.Op == api.Load || a.Op == api.Fetch {
			k.read = a.Old
		}
		if a.Op == api.Fetch && a.When > said[a.Thread] {
			k.fetched, k.had = true, a.Old
		}
		k.swapped = a.Op == api.Swap && a.Old != a.Now
		if k.swapped && a.When > said[a.Thread] {
			k.changed, k.was = true, a.Old
		}
	}
	return l
}

// ahead is how many sleep at the same cell as a thread, and fell asleep ahead of it.
func (r *run) ahead(t int) int {
	n := 0
	for _, other := range r.asleep {
		if other == t {
			return n
		}
		if r.cell(other) == r.cell(t) {
			n++
		}
	}
	return 0
}
