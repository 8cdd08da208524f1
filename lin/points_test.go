package lin_test

import (
	"cmp"
	"fmt"
	"math"
	"math/rand"
	"slices"
	"testing"

	"quadrille/api"
	"quadrille/lin"
	"quadrille/plain"
)

// Calls.
var (
	arrive = api.Call{What: api.Arrive}
	leave  = api.Call{What: api.Leave}
	pass   = api.Call{What: api.Pass}
	shut   = api.Call{What: api.Close}
)

// register and watch are calls with a number.
func register(n int) api.Call { return api.Call{What: api.Register, N: n} }
func watch(n int) api.Call    { return api.Call{What: api.Watch, N: n} }

// ask is a list of calls.
func ask(l ...api.Call) []api.Call { return l }

// lists are calls of threads.
type lists = [][]api.Call

// look is an act that changes nothing, and swap one that does.
func look(when, thread int) api.Act { return api.Act{When: when, Thread: thread, Op: api.Load} }
func swap(when, thread int) api.Act {
	return api.Act{When: when, Thread: thread, Op: api.Swap, Now: 1}
}

// told is an answer.
func told(when, thread int) api.Event {
	return api.Event{When: when, What: api.Told, Thread: thread, Value: 9}
}

// point is one that isn't Late.
func point(when, thread, call int) api.Point {
	return api.Point{When: when, Thread: thread, Call: call}
}

// late is one that is.
func late(when, thread, call int) api.Point {
	return api.Point{When: when, Thread: thread, Call: call, Late: true}
}

// points checks what the points of calls are.
func points(t *testing.T, name string, calls lists, acts []api.Act, events []api.Event, want ...api.Point) {
	t.Helper()
	if got, err := lin.Points(calls, acts, events); !slices.Equal(got, want) || err != nil {
		t.Errorf("%s: got %v, %v, want %v", name, got, err, want)
	}
}

// noPoints checks that an error is told.
func noPoints(t *testing.T, name string, calls lists, events []api.Event, want api.Errno, at int) {
	t.Helper()
	got, err := lin.Points(calls, []api.Act{swap(1, 0), look(2, 0)}, events)
	if e, place := plain.Place(err); e != want || place != at || len(got) != 0 {
		t.Errorf("%s: got error %d at %d, want %d at %d; %v", name, e, place, want, at, got)
	}
}

func TestPointsOfTooManyThreads(t *testing.T) {
	noPoints(t, "17", make(lists, 17), nil, api.ErrLimit, -1)
	noPoints(t, "40", slices.Repeat(lists{ask(arrive)}, 40), nil, api.ErrLimit, -1)
	noPoints(t, "ahead of events", make(lists, 17), []api.Event{{}, told(1, 0)}, api.ErrLimit, -1)
	points(t, "16", make(lists, 16), []api.Act{swap(1, 15), look(2, 15)}, nil)
	many := slices.Repeat(lists{ask(arrive)}, 16)
	points(t, "16 that ask", many, []api.Act{swap(1, 15), swap(2, 16), swap(3, 0)}, nil, point(1, 15, 0), point(3, 0, 0))
	noPoints(t, "no thread 16", many, []api.Event{told(1, 15), told(1, 16)}, api.ErrFalse, 1)
}

func TestPointsOfEventsThatAreNoAnswers(t *testing.T) {
	calls := lists{ask(arrive, pass), ask(), ask(leave)}
	for _, x := range []struct {
		name   string
		events []api.Event
		at     int
	}{
		{"came", []api.Event{{When: 1, What: api.Came}}, 0},
		{"gone", []api.Event{told(1, 0), {When: 1, What: api.Gone}}, 1},
		{"nothing", []api.Event{told(1, 2), {When: 1}}, 1},
		{"another word", []api.Event{told(1, 2), {When: 1, What: api.Told + 1}}, 1},
		{"a word below 0", []api.Event{{When: 1, What: -api.Told}, told(1, 0)}, 0},
		{"no thread below 0", []api.Event{told(1, -1)}, 0},
		{"no thread 3", []api.Event{told(1, 0), told(1, 3)}, 1},
		{"far threads", []api.Event{told(1, 0), told(1, 2), told(1, math.MaxInt), told(1, math.MinInt)}, 2},
		{"no call of 1", []api.Event{told(1, 1)}, 0},
		{"no third call of 0", []api.Event{told(1, 0), told(2, 2), told(3, 0), told(4, 0), told(5, 0)}, 3},
		{"no second call of 2", []api.Event{told(1, 2), told(2, 2), {}}, 1},
		{"the first one", []api.Event{told(1, 0), {}, told(1, 7)}, 1},
	} {
		noPoints(t, x.name, calls, x.events, api.ErrFalse, x.at)
	}
	noPoints(t, "no calls", nil, []api.Event{told(1, 0)}, api.ErrFalse, 0)
	points(t, "all answers", calls, nil, []api.Event{told(1, 0), told(2, 2), told(3, 0)})
}

func TestPointsOfNothing(t *testing.T) {
	points(t, "nothing", nil, nil, nil)
	points(t, "no calls", nil, []api.Act{swap(1, 0), look(2, 0)}, nil)
	points(t, "no call", make(lists, 2), []api.Act{swap(1, 0), look(2, 1)}, nil)
	points(t, "no acts", lists{ask(arrive, pass)}, nil, []api.Event{told(1, 0), told(2, 0)})
}

func TestPointsOfAnsweredCalls(t *testing.T) {
	end := []api.Event{told(9, 0)}
	for _, c := range []api.Call{arrive, leave, register(3), watch(0), shut, pass, {}, {What: api.Lock}} {
		points(t, "a look", lists{ask(c)}, []api.Act{look(3, 0)}, end, point(3, 0, 0))
		points(t, "the last look", lists{ask(c)}, []api.Act{look(3, 0), look(5, 0)}, end, point(5, 0, 0))
		if c == pass {
			continue
		}
		points(t, "a change", lists{ask(c)}, []api.Act{look(3, 0), swap(4, 0)}, end, point(4, 0, 0))
		points(t, "a change ahead of a look", lists{ask(c)}, []api.Act{look(3, 0), swap(4, 0), look(6, 0)}, end, point(4, 0, 0))
		points(t, "the last change", lists{ask(c)}, []api.Act{swap(3, 0), swap(4, 0), look(6, 0)}, end, point(4, 0, 0))
	}
}

func TestPointsOfAPass(t *testing.T) {
	end := []api.Event{told(9, 0)}
	acts := []api.Act{look(3, 0), swap(4, 0), look(5, 0), look(7, 0)}
	points(t, "answered", lists{ask(pass)}, acts, end, point(4, 0, 0), late(7, 0, 0))
	points(t, "not answered", lists{ask(pass)}, acts, nil, point(4, 0, 0))
	points(t, "a change and nothing else", lists{ask(pass)}, []api.Act{swap(4, 0)}, end, point(4, 0, 0), late(4, 0, 0))
	points(t, "two changes", lists{ask(pass)}, []api.Act{swap(4, 0), swap(6, 0)}, end, point(6, 0, 0), late(6, 0, 0))
	points(t, "no change", lists{ask(pass)}, []api.Act{look(3, 0), look(7, 0)}, end, point(7, 0, 0))
	points(t, "no change, not answered", lists{ask(pass)}, []api.Act{look(3, 0), look(7, 0)}, nil)
	points(t, "the last one is ahead", lists{ask(pass)}, []api.Act{swap(6, 0), look(2, 0)}, end, late(2, 0, 0), point(6, 0, 0))
	points(t, "of a number", lists{ask(api.Call{What: api.Pass, N: 7})}, acts, end, point(4, 0, 0), late(7, 0, 0))
}

func TestPointsOfWhatIsNoChange(t *testing.T) {
	end := []api.Event{told(9, 0)}
	for op := range api.Ops + 1 {
		a := api.Act{When: 5, Op: op, Old: 1, Now: 2}
		change := []api.Point{point(5, 0, 0)}
		if op != api.Swap {
			change[0] = point(6, 0, 0)
		}
		points(t, fmt.Sprint("op ", op), lists{ask(arrive)}, []api.Act{a, look(6, 0)}, end, change...)
		a.Now = 1
		points(t, fmt.Sprint("nothing by op ", op), lists{ask(arrive)}, []api.Act{a, look(6, 0)}, end, point(6, 0, 0))
		points(t, fmt.Sprint("nothing by op ", op, " alone"), lists{ask(pass)}, []api.Act{a}, end, point(5, 0, 0))
	}
	down := api.Act{When: 5, Op: api.Swap, Old: math.MaxUint64}
	points(t, "down", lists{ask(arrive)}, []api.Act{down, look(6, 0)}, end, point(5, 0, 0))
}

func TestPointsAreOfTheThreadsOwnActsOnItsCell(t *testing.T) {
	end := []api.Event{told(9, 0)}
	for _, cell := range []int{math.MinInt, -1, 1, 299, math.MaxInt} {
		elsewhere := swap(5, 0)
		elsewhere.Cell = cell
		points(t, "another cell", lists{ask(pass)}, []api.Act{swap(2, 0), look(3, 0), elsewhere}, end, point(2, 0, 0), late(3, 0, 0))
		points(t, "another cell alone", lists{ask(pass)}, []api.Act{elsewhere}, end)
	}
	for _, thread := range []int{math.MinInt, -1, 1, 2, 16, math.MaxInt} {
		points(t, "another one's", lists{ask(pass), ask()}, []api.Act{swap(2, 0), look(3, 0), swap(5, thread)}, end, point(2, 0, 0), late(3, 0, 0))
		points(t, "another one's alone", lists{ask(pass), ask()}, []api.Act{swap(5, thread)}, end)
	}
}

func TestPointsAreWithinTheCall(t *testing.T) {
	calls := lists{ask(arrive, leave, shut)}
	var acts []api.Act
	for _, when := range []int{math.MinInt, -1, 0, 1, 3, 4, 5, 6, 7, 8, 9, 100, math.MaxInt} {
		acts = append(acts, look(when, 0))
	}
	points(t, "none is answered", calls, acts, nil)
	points(t, "one is", calls, acts, []api.Event{told(4, 0)}, point(3, 0, 0))
	points(t, "two are", calls, acts, []api.Event{told(4, 0), told(8, 0)}, point(3, 0, 0), point(7, 0, 1))
	points(t, "all are", calls, acts, []api.Event{told(4, 0), told(8, 0), told(math.MaxInt, 0)}, point(3, 0, 0), point(7, 0, 1), point(100, 0, 2))
	points(t, "nothing between", calls, acts, []api.Event{told(1, 0), told(2, 0), told(5, 0)}, point(4, 0, 2))
	points(t, "ahead of what is answered", calls, acts, []api.Event{told(0, 0), told(-3, 0), told(0, 0)}, point(-1, 0, 2))
	points(t, "not in order", calls, acts, []api.Event{told(8, 0), told(4, 0), told(6, 0)}, point(5, 0, 2), point(7, 0, 0))
	points(t, "of all at once", calls, acts, []api.Event{told(8, 0), told(8, 0), told(8, 0)}, point(7, 0, 0))
	points(t, "of far steps", calls, acts, []api.Event{told(math.MinInt, 0), told(math.MaxInt, 0), told(math.MinInt, 0)}, point(100, 0, 1))
}

func TestPointsOfTheFirstCallThatIsNotAnswered(t *testing.T) {
	calls := lists{ask(arrive, pass, leave), ask(register(1), pass)}
	acts := []api.Act{swap(2, 0), swap(4, 0), swap(5, 0), swap(8, 1), look(9, 1), swap(math.MaxInt, 0), look(12, 0)}
	points(t, "none is answered", calls, acts, nil, point(8, 1, 0), point(math.MaxInt, 0, 0))
	points(t, "at the answer", calls, acts, []api.Event{told(4, 0), told(8, 1)}, point(2, 0, 0), point(math.MaxInt, 0, 1))
	points(t, "the last one", calls, acts, []api.Event{told(3, 0), told(5, 0)}, point(2, 0, 0), point(4, 0, 1), late(4, 0, 1), point(8, 1, 0), point(math.MaxInt, 0, 2))
	points(t, "at the last step", calls, acts, []api.Event{told(math.MaxInt, 0), told(math.MaxInt, 1)}, point(5, 0, 0), point(8, 1, 0))
	// What a call did ahead of step 1 isn't within it.
	points(t, "ahead of all", calls, []api.Act{swap(0, 0), swap(-1, 1)}, nil)
	points(t, "at the first step", calls, []api.Act{swap(1, 0), swap(0, 1)}, nil, point(1, 0, 0))
}

func TestPointsStandByWhenThenThreadThenCall(t *testing.T) {
	calls := lists{ask(pass, pass), ask(arrive), ask(pass)}
	events := []api.Event{told(9, 0), told(9, 1), told(9, 2), told(4, 0)}
	acts := []api.Act{swap(5, 2), swap(5, 1), swap(5, 0)}
	points(t, "of one step", calls, acts, events, point(5, 0, 0), late(5, 0, 0), point(5, 1, 0), point(5, 2, 0), late(5, 2, 0))
	// What is answered in another order than it would be may let a step be within two calls of a thread.
	events = []api.Event{told(6, 1), told(9, 0), told(-5, 0)}
	more := lists{ask(pass, arrive, leave), ask(leave)}
	points(t, "of one step and thread", more, []api.Act{swap(5, 0), swap(5, 1)}, events, point(5, 0, 0), late(5, 0, 0), point(5, 0, 2), point(5, 1, 0))
}

func TestPointsAsTheyStand(t *testing.T) {
	end := []api.Event{told(9, 0)}
	points(t, "the last look", lists{ask(arrive)}, []api.Act{look(7, 0), look(3, 0)}, end, point(3, 0, 0))
	points(t, "the last change", lists{ask(arrive)}, []api.Act{swap(7, 0), look(8, 0), swap(3, 0), look(1, 0)}, end, point(3, 0, 0))
	points(t, "the last one within", lists{ask(arrive)}, []api.Act{swap(7, 0), swap(3, 0), swap(11, 0), swap(0, 0)}, end, point(3, 0, 0))
}

// window is behind which step, and ahead of which one (if it is answered), a thread's call is done; false: one ahead of it isn't answered.
func window(events []api.Event, thread, call int) (from, to int, answered, ok bool) {
	k := 0
	for _, e := range events {
		if e.Thread != thread {
			continue
		}
		if k == call {
			return from, e.When, true, true
		}
		from = e.When
		k++
	}
	return from, 0, false, k == call
}

// model is 21.1 as plainly as it is told, of events that are answers.
func model(calls lists, acts []api.Act, events []api.Event) []api.Point {
	var l []api.Point
	for thread := range calls {
		for call := range calls[thread] {
			from, to, answered, ok := window(events, thread, call)
			if !ok {
				continue
			}
			var last, change *api.Act
			for _, a := range acts {
				if a.Thread != thread || a.Cell != 0 || a.When <= from || answered && a.When >= to {
					continue
				}
				last = &a
				if a.Op == api.Swap && a.Old != a.Now {
					change = &a
				}
			}
			if change != nil {
				l = append(l, point(change.When, thread, call))
			}
			if change != nil && answered && calls[thread][call].What == api.Pass {
				l = append(l, late(last.When, thread, call))
			}
			if change == nil && answered && last != nil {
				l = append(l, point(last.When, thread, call))
			}
		}
	}
	slices.SortFunc(l, func(a, b api.Point) int {
		return cmp.Or(cmp.Compare(a.When, b.When), cmp.Compare(a.Thread, b.Thread), cmp.Compare(a.Call, b.Call), cmp.Compare(flag(a.Late), flag(b.Late)))
	})
	return l
}

// flag is 1 for true.
func flag(b bool) int {
	if b {
		return 1
	}
	return 0
}

// wrong is the first event that is no answer; -1: there is none.
func wrong(calls lists, events []api.Event) int {
	for k, e := range events {
		n := 0
		for _, ahead := range events[:k] {
			if ahead.Thread == e.Thread {
				n++
			}
		}
		if e.What != api.Told || e.Thread < 0 || e.Thread >= len(calls) || n >= len(calls[e.Thread]) {
			return k
		}
	}
	return -1
}

// drawn are calls, acts and events of whatever kind.
func drawn(random *rand.Rand) (calls lists, acts []api.Act, events []api.Event) {
	calls = make(lists, random.Intn(4))
	for k := range calls {
		for range random.Intn(4) {
			calls[k] = append(calls[k], ask(pass, pass, arrive, watch(3))[random.Intn(4)])
		}
	}
	for range random.Intn(16) {
		acts = append(acts, api.Act{When: random.Intn(12) - 1, Thread: random.Intn(len(calls)+2) - 1, Op: []int{api.Load, api.Swap, api.Swap, api.Store}[random.Intn(4)], Cell: random.Intn(8) / 7, Old: uint64(random.Intn(2)), Now: uint64(random.Intn(2))})
	}
	for range random.Intn(7) {
		e := told(random.Intn(12)-1, random.Intn(len(calls)+1))
		if random.Intn(40) == 0 {
			e.What = random.Intn(5)
		}
		events = append(events, e)
	}
	// Half of them are in the order in which they would be.
	if random.Intn(2) == 0 {
		slices.SortStableFunc(acts, func(a, b api.Act) int { return cmp.Compare(a.When, b.When) })
		slices.SortStableFunc(events, func(a, b api.Event) int { return cmp.Compare(a.When, b.When) })
	}
	return calls, acts, events
}

func TestPointsOfWhatever(t *testing.T) {
	random := rand.New(rand.NewSource(1))
	for range 100000 {
		calls, acts, events := drawn(random)
		name := fmt.Sprint(calls, acts, events)
		if k := wrong(calls, events); k >= 0 {
			noPoints(t, name, calls, events, api.ErrFalse, k)
			// What is ahead of it are answers.
			events = events[:k]
		}
		points(t, name, calls, acts, events, model(calls, acts, events)...)
		if t.Failed() {
			return
		}
	}
}

func TestPointsWritesIntoNothing(t *testing.T) {
	calls := lists{ask(pass, arrive, leave), ask(arrive)}
	acts := []api.Act{swap(7, 1), look(5, 0), swap(3, 0), look(4, 0), look(1, 1)}
	events := []api.Event{told(6, 0), told(8, 1), told(9, 0), {What: 77}}
	was := fmt.Sprint(calls, acts, events)
	l, err := lin.Points(calls[:2], acts[:4], events[:2])
	if err != nil || fmt.Sprint(calls, acts, events) != was {
		t.Errorf("%v; written into: %v %v %v", err, calls, acts, events)
	}
	kept := fmt.Sprint(l)
	clear(l[:cap(l)])
	again, _ := lin.Points(calls[:2], acts[:4], events[:2])
	if fmt.Sprint(again) != kept {
		t.Errorf("once more: got %v, want %s", again, kept)
	}
}
