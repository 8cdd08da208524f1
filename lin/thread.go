package lin

import (
	"slices"

	"quadrille/api"
)

// thread is what one asks for, at which steps it was answered, and what it did to the state.
type thread struct {
	calls   []api.Call
	answers []int
	acts    []api.Act
}

// answered are all threads, with their calls and answers. ErrFalse, with the event: it is no answer to a call.
func answered(calls [][]api.Call, events []api.Event) ([]thread, error) {
	l := make([]thread, len(calls))
	for k := range l {
		l[k].calls = calls[k]
	}
	for k, e := range events {
		if e.What != api.Told || e.Thread < 0 || e.Thread >= len(l) || len(l[e.Thread].answers) == len(l[e.Thread].calls) {
			return nil, &api.At{Err: api.ErrFalse, Place: k}
		}
		t := &l[e.Thread]
		t.answers = append(t.answers, e.When)
	}
	return l, nil
}

// points are those of a thread's calls, one behind the other; of those that aren't answered only the first one is under way.
func (t *thread) points(number int) []api.Point {
	var l []api.Point
	for k := range min(len(t.answers)+1, len(t.calls)) {
		answered := k < len(t.answers)
		last, acted := t.last(k, func(a api.Act) bool { return true })
		change, changed := t.last(k, func(a api.Act) bool { return a.Op == api.Swap && a.Old != a.Now })
		if changed {
			l = append(l, api.Point{When: change, Thread: number, Call: k})
		} else if answered && acted {
			l = append(l, api.Point{When: last, Thread: number, Call: k})
		}
		// What a Pass is answered it saw when it looked last.
		if changed && answered && t.calls[k].What == api.Pass {
			l = append(l, api.Point{When: last, Thread: number, Call: k, Late: true})
		}
	}
	return l
}

// last is when the last act within a call, of those that are such, was done, if there is one.
func (t *thread) last(call int, such func(a api.Act) bool) (int, bool) {
	for _, a := range slices.Backward(t.acts) {
		if t.within(call, a.When) && such(a) {
			return a.When, true
		}
	}
	return 0, false
}

// within is whether a step is behind the answer ahead of a call, and ahead of its own one, if there is that.
func (t *thread) within(call, when int) bool {
	from := 0
	if call > 0 {
		from = t.answers[call-1]
	}
	return when > from && (call == len(t.answers) || when < t.answers[call])
}
