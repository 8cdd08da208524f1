// Package trial tries barriers, for the tests of the packages that make them: does nobody go ahead of all who come, and are all at their ends at last, whoever goes on when, and whoever is woken for nothing?
package trial

import (
	"strconv"

	"quadrille/api"
	"quadrille/core"
)

// Barrier is what is tried: for so many, so many rounds, on so many cells, whose programs Code makes.
type Barrier struct {
	Code             func(n, id, rounds int) ([]api.Ins, error)
	N, Rounds, Cells int
}

// Some tries one order: pick(n), a number from 0 to n - 1, tells who goes on, how far, and who is woken for nothing; those who aren't at their ends then go on in turns. It answers what is wrong; "" is nothing.
func (b Barrier) Some(pick func(n int) int) string {
	programs, err := b.programs()
	if err != nil {
		return err.Error()
	}
	c, err := b.machine(programs)
	if err != nil {
		return err.Error()
	}
	// Who is woken for nothing doesn't miss a wake: so in half of the orders nobody is.
	pokes := pick(2) == 0
	for range 100 * b.N {
		if pokes && pick(8) == 0 {
			move(c, api.Move{Thread: pick(b.N), Poke: true})
		}
		k := pick(b.N)
		for range 1 + pick(9) {
			move(c, api.Move{Thread: k})
		}
	}
	return b.finish(c)
}

// link is a state, by the move that leads there from another one.
type link struct {
	from int
	move api.Move
}

// All tries all orders: it looks for each state that can be reached, from which all go on in turns. It answers how many there are, and what is wrong; "" is nothing.
func (b Barrier) All() (int, string) {
	programs, err := b.programs()
	if err != nil {
		return 0, err.Error()
	}
	known := map[string]bool{}
	links := []link{{from: -1}}
	for k := 0; k < len(links); k++ {
		for _, m := range b.moves() {
			c, err := b.machine(programs)
			if err != nil {
				return k, err.Error()
			}
			play(c, links, k)
			if !move(c, m) || known[state(c)] {
				continue
			}
			known[state(c)] = true
			links = append(links, link{k, m})
			if wrong := b.finish(c); wrong != "" {
				return len(links), wrong
			}
		}
	}
	return len(links), ""
}

// programs are those of all who come.
func (b Barrier) programs() ([][]api.Ins, error) {
	var l [][]api.Ins
	for id := range b.N {
		p, err := b.Code(b.N, id, b.Rounds)
		if err != nil {
			return nil, err
		}
		l = append(l, p)
	}
	return l, nil
}

// machine is a new one, with a thread for each who comes.
func (b Barrier) machine(programs [][]api.Ins) (*core.Core, error) {
	return core.New(programs, make([]uint64, b.Cells))
}

// moves are all that may be next.
func (b Barrier) moves() []api.Move {
	var l []api.Move
	for k := range b.N {
		l = append(l, api.Move{Thread: k}, api.Move{Thread: k, Poke: true})
	}
	return l
}

// move is whether a move can be made; it is made then.
func move(c *core.Core, m api.Move) bool {
	if m.Poke {
		return c.Poke(m.Thread) == nil
	}
	return c.Step(m.Thread) == nil
}

// play makes the moves that lead to a state.
func play(c *core.Core, links []link, at int) {
	if links[at].from < 0 {
		return
	}
	play(c, links, links[at].from)
	move(c, links[at].move)
}

// state is all that what is yet to come hangs on, and where it stands in its rounds. (A barrier's thread has nothing in its registers but what it last read, and its round, which what it said tells.)
func state(c *core.Core) string {
	var b []byte
	for _, x := range c.Cells() {
		b = strconv.AppendUint(append(b, ' '), x, 10)
	}
	n := c.Threads()
	said, read := make([]int, n), make([]uint64, n)
	for _, e := range c.Events() {
		said[e.Thread]++
	}
	for _, a := range c.Acts() {
		if a.Op == api.Load || a.Op == api.Fetch {
			read[a.Thread] = a.Old
		}
	}
	for k := range n {
		at, cell, err := c.At(k)
		if err != nil {
			at = -1
		}
		for _, x := range []int{at, cell, said[k]} {
			b = strconv.AppendInt(append(b, ' '), int64(x), 10)
		}
		b = strconv.AppendUint(append(b, ' '), read[k], 10)
	}
	return string(b)
}

// finish lets all go on in turns, till none can, and tells what is wrong with what was done then.
func (b Barrier) finish(c *core.Core) string {
	for again := true; again; {
		again = false
		for k := range b.N {
			again = move(c, api.Move{Thread: k}) || again
		}
	}
	if all, _ := c.Ends(); !all {
		return "not all are at their ends"
	}
	return b.said(c.Events())
}

// said tells what is wrong with what was said.
func (b Barrier) said(l []api.Event) string {
	times := make([]int, b.N) // how often each thread said something
	for k, e := range l {
		at := " at event " + strconv.Itoa(k)
		if e.What != api.Came+times[e.Thread]%2 || e.Value != 1+times[e.Thread]/2 {
			return "not what is said next" + at
		}
		times[e.Thread]++
		for _, n := range times {
			if e.What == api.Gone && n < 2*e.Value-1 {
				return "gone ahead of one who comes" + at
			}
		}
	}
	for _, n := range times {
		if n != 2*b.Rounds {
			return "not all rounds"
		}
	}
	return ""
}
