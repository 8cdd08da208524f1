package trial

import (
	"slices"

	"quadrille/api"
	"quadrille/core"
)

// Answer is what a thread's call is answered, and at which step.
type Answer struct {
	When, Thread int
	Call         api.Call // none, if the thread asked for no more, or said another word than Told
	Value        int
}

// Answers are all that the threads of a machine, which ask for these lists, were told.
func Answers(c *core.Core, lists [][]api.Call) []Answer {
	var l []Answer
	times := make([]int, len(lists))
	for _, e := range c.Events() {
		a := Answer{When: e.When, Thread: e.Thread, Value: e.Value}
		if k := times[e.Thread]; e.What == api.Told && k < len(lists[e.Thread]) {
			a.Call = lists[e.Thread][k]
		}
		times[e.Thread]++
		l = append(l, a)
	}
	return l
}

// LastAct is what a thread last did to a cell; the zero Act: nothing.
func LastAct(c *core.Core, thread int) api.Act {
	for _, a := range slices.Backward(c.Acts()) {
		if a.Thread == thread {
			return a
		}
	}
	return api.Act{}
}

// LastAnswer is what was answered at a machine's last step, if anything was.
func LastAnswer(c *core.Core, lists [][]api.Call) (Answer, bool) {
	l := Answers(c, lists)
	if len(l) == 0 || l[len(l)-1].When != c.Steps() {
		return Answer{}, false
	}
	return l[len(l)-1], true
}

// Wait is who isn't at its end, or came there unanswered: the cell where it sleeps, -1 if it doesn't; and its first call that isn't answered, none if all are.
type Wait struct {
	Thread, Cell int
	Call         api.Call
}

// Waits are those of a machine, whose threads ask for these lists.
func Waits(c *core.Core, lists [][]api.Call) []Wait {
	answered := make([]int, len(lists))
	for _, a := range Answers(c, lists) {
		answered[a.Thread]++
	}
	var l []Wait
	for t, calls := range lists {
		_, cell, err := c.At(t)
		w := Wait{Thread: t, Cell: cell}
		if err != nil {
			w.Cell = -1
		}
		if answered[t] < len(calls) {
			w.Call = calls[answered[t]]
		}
		if err == nil || w.Call != (api.Call{}) {
			l = append(l, w)
		}
	}
	return l
}

// Lists are calls that so many threads as may be, or fewer, may ask for, put together of pieces, the last one of which may be cut; pick tells as in Some.
func Lists(pick func(n int) int, pieces ...[]api.Call) [][]api.Call {
	lists := make([][]api.Call, 1+pick(api.MaxThreads))
	for t := range lists {
		n := pick(api.MaxCalls + 1)
		for len(lists[t]) < n {
			lists[t] = append(lists[t], pieces[pick(len(pieces))]...)
		}
		lists[t] = lists[t][:n]
	}
	return lists
}
