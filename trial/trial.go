// Package trial tries programs, for the tests of the packages that make them: does what they promise hold, whoever goes on when, and whoever is woken for nothing?
package trial

import (
	"strconv"

	"quadrille/api"
	"quadrille/core"
)

// Barrier is what is tried: for so many, so many rounds, on so many cells, whose programs Code makes. Does nobody go ahead of all who come, and are all at their ends at last?
type Barrier struct {
	Code             func(n, id, rounds int) ([]api.Ins, error)
	N, Rounds, Cells int
}

// Some tries one order, as a Machine's does.
func (b Barrier) Some(pick func(n int) int) string {
	m, err := b.machine()
	if err != nil {
		return err.Error()
	}
	return m.Some(pick)
}

// All tries all orders, as a Machine's does.
func (b Barrier) All() (int, string) {
	m, err := b.machine()
	if err != nil {
		return 0, err.Error()
	}
	return m.All()
}

// machine has a thread for each who comes.
func (b Barrier) machine() (Machine, error) {
	m := Machine{Cells: make([]uint64, b.Cells), Now: nothing, Last: b.last}
	for id := range b.N {
		p, err := b.Code(b.N, id, b.Rounds)
		if err != nil {
			return Machine{}, err
		}
		m.Programs = append(m.Programs, p)
	}
	return m, nil
}

// nothing is wrong: what is said at last tells all that was said ahead.
func nothing(c *core.Core) string { return "" }

// last tells what is wrong where nobody goes on any more.
func (b Barrier) last(c *core.Core) string {
	if all, _ := c.Ends(); !all {
		return "not all are at their ends"
	}
	return b.said(c.Events())
}

// said tells what is wrong with what was said.
func (b Barrier) said(l []api.Event) string {
	times := make([]int, b.N) // how often each thread said something
	for k, e := range l {
		at := " at event " + strconv.Itoa(k)
		if e.What != api.Came+times[e.Thread]%2 || e.Value != 1+times[e.Thread]/2 {
			return "not what is said next" + at
		}
		times[e.Thread]++
		for _, n := range times {
			if e.What == api.Gone && n < 2*e.Value-1 {
				return "gone ahead of one who comes" + at
			}
		}
	}
	for _, n := range times {
		if n != 2*b.Rounds {
			return "not all rounds"
		}
	}
	return ""
}
