package trial

import (
	"slices"

	"quadrille/api"
	"quadrille/core"
)

// Answer is what a thread's call is answered, and at which step.
type Answer struct {
	When, Thread int
	Call         api.Call // none, if the thread asked for no more, or said another word than Told
	Value        int
}

// Answers are all that the threads of a machine, which ask for these lists, were told.
func Answers(c *core.Core, lists [][]api.Call) []Answer {
	var l []Answer
	times := make([]int, len(lists))
	for _, e := range c.Events() {
		a := Answer{When: e.When, Thread: e.Thread, Value: e.Value}
		if k := times[e.Thread]; e.What == api.Told && k < len(lists[e.Thread]) {
			a.Call = lists[e.Thread][k]
		}
		times[e.Thread]++
		l = append(l, a)
	}
	return l
}

// LastAct is what a thread last did to a cell; the zero Act: nothing.
func LastAct(c *core.Core, thread int) api.Act {
	for _, a := range slices.Backward(c.Acts()) {
		if a.Thread == thread {
			return a
		}
	}
	return api.Act{}
}
