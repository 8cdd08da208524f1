package once_test

import (
	"fmt"
	"math/rand"
	"slices"
	"testing"

	"quadrille/api"
	"quadrille/core"
	"quadrille/once"
	"quadrille/trial"
)

// kind is how these programs are made, and how the document writes their calls.
var kind = trial.Calls{Code: once.Code, Text: trial.Texts(map[int]string{
	api.Once: "let 5 0; let 6 1; let 4 2; swap 3 0 5 6; same 3 0 p+9; fetch 1 1 1; store 0 4 -1; wake 0 16 -1; jump p+13; load 1 0; equal 1 4 p+13; wait 0 1; jump p+9; say 3 3",
})}

// asks is a list of so many calls.
func asks(n int) []api.Call { return slices.Repeat([]api.Call{{What: api.Once}}, n) }

func TestFace(t *testing.T) {
	if wrong := kind.Face(); wrong != "" {
		t.Error(wrong)
	}
}

func TestCodeIsWhole(t *testing.T) {
	one := "let 5 0; let 6 1; let 4 2; swap 3 0 5 6; same 3 0 9; fetch 1 1 1; store 0 4 -1; wake 0 16 -1; jump 13; load 1 0; equal 1 4 13; wait 0 1; jump 9; say 3 3; "
	two := "let 5 0; let 6 1; let 4 2; swap 3 0 5 6; same 3 0 23; fetch 1 1 1; store 0 4 -1; wake 0 16 -1; jump 27; load 1 0; equal 1 4 27; wait 0 1; jump 23; say 3 3; "
	for n, text := range []string{"halt", one + "halt", one + two + "halt"} {
		if wrong := kind.Whole(text, asks(n)...); wrong != "" {
			t.Errorf("%d: %s", n, wrong)
		}
	}
}

func TestCodeIsOfTwoCells(t *testing.T) {
	if wrong := kind.Room(169, 2, asks(12)...); wrong != "" {
		t.Error(wrong)
	}
}

// started are threads that ask for calls, where at first the cells are as they are told.
type started struct {
	state, times uint64
	threads      [][]api.Call
}

// machine is what is tried of them.
func (x started) machine(t *testing.T) trial.Machine {
	t.Helper()
	p, err := kind.Programs(x.threads)
	if err != nil {
		t.Fatalf("%v: %v", x, err)
	}
	return trial.Machine{Programs: p, Cells: []uint64{x.state, x.times}, Now: x.now, Last: x.last}
}

// doer is who did it, and at which step; -1 is nobody. It tells what is wrong, too: it is done once.
func (x started) doer(c *core.Core) (thread, when int, wrong string) {
	thread = -1
	for _, a := range c.Acts() {
		if a.Cell != 1 {
			continue
		}
		if thread >= 0 || x.state != 0 || a.Now != x.times+1 {
			return a.Thread, a.When, "done again"
		}
		thread, when = a.Thread, a.When
	}
	return thread, when, ""
}

// now tells what is wrong wherever it stands: it is done once, and nobody is answered, or told by the cell, ahead of that.
func (x started) now(c *core.Core) string {
	thread, when, wrong := x.doer(c)
	if wrong != "" {
		return wrong
	}
	cells := c.Cells()
	if cells[0] == 2 && x.state != 2 && thread < 0 {
		return "told, and not done"
	}
	last, ok := trial.LastAnswer(c, x.threads)
	if !ok {
		return ""
	}
	if cells[0] != 2 {
		return "answered ahead of its being done"
	}
	// Who did it is told 1, once, by the call that it asked for then.
	first := !slices.ContainsFunc(c.Events(), func(e api.Event) bool {
		return e.Thread == last.Thread && e.When > when && e.When < last.When
	})
	if (last.Value == 1) != (last.Thread == thread && first) || last.Value > 1 || last.Value < 0 {
		return "another answer"
	}
	return ""
}

// last tells what is wrong where nobody goes on any more: it is done, and all are at their ends; or it was begun at first by somebody else, and all sleep.
func (x started) last(c *core.Core) string {
	calls := len(slices.Concat(x.threads...))
	state, times, answered := x.state, x.times, 0
	if state == 0 && calls > 0 {
		state, times = 2, times+1
	}
	if state == 2 {
		answered = calls
	}
	if cells := c.Cells(); cells[0] != state || cells[1] != times {
		return fmt.Sprintf("the cells are %v", cells)
	}
	if n := len(c.Events()); n != answered {
		return fmt.Sprintf("%d of %d are answered", n, calls)
	}
	for _, w := range trial.Waits(c, x.threads) {
		if w.Cell != 0 || state == 2 || w.Call == (api.Call{}) {
			return fmt.Sprintf("%v isn't at its end, and the cell is %d", w, state)
		}
	}
	return ""
}

func TestDoneOnceInAnyOrder(t *testing.T) {
	for _, x := range []started{
		{threads: [][]api.Call{asks(1)}},
		{threads: [][]api.Call{asks(3)}},
		{threads: [][]api.Call{asks(1), asks(1)}},
		{threads: [][]api.Call{asks(2), asks(3)}},
		{threads: [][]api.Call{asks(1), asks(1), asks(1)}},
		{threads: [][]api.Call{asks(1), asks(2), asks(0)}},
		{times: 7, threads: [][]api.Call{asks(1), asks(1)}},
		{times: 1<<64 - 1, threads: [][]api.Call{asks(1), asks(1)}},
		// What is done isn't done again.
		{state: 2, times: 1, threads: [][]api.Call{asks(2), asks(1)}},
		{state: 2, threads: [][]api.Call{asks(1), asks(1), asks(1)}},
		// What somebody else began is never done: so all sleep in the end.
		{state: 1, threads: [][]api.Call{asks(1), asks(2)}},
		{state: 1, times: 1, threads: [][]api.Call{asks(1), asks(1), asks(1)}},
		{state: 3, threads: [][]api.Call{asks(1), asks(1)}},
	} {
		if n, wrong := x.machine(t).All(); wrong != "" {
			t.Errorf("%v: %s, in the last one of %d states", x, wrong, n)
		}
	}
}

func TestDoneOnceOfMany(t *testing.T) {
	random := rand.New(rand.NewSource(1))
	for range 200 {
		x := started{uint64(random.Intn(6) / 3), uint64(random.Intn(3)), trial.Lists(random.Intn, asks(1))}
		if wrong := x.machine(t).Some(random.Intn); wrong != "" {
			t.Errorf("%v: %s", x, wrong)
		}
	}
}

func TestWhoComesMeanwhileSleepsTillItIsDone(t *testing.T) {
	if wrong := kind.Walk([][]api.Call{asks(2), asks(2), asks(1), asks(1)}, []uint64{0, 0},
		trial.Leg{Thread: 1, Steps: 5, Cells: "1 0"},
		trial.Leg{Thread: 0, Steps: 8, Cells: "1 0", Asleep: "0"},
		trial.Leg{Thread: 2, Steps: 7, Cells: "1 0", Asleep: "0"},
		trial.Leg{Thread: 1, Steps: 1, Cells: "1 1", Asleep: "0"},
		trial.Leg{Thread: 1, Steps: 1, Cells: "2 1", Asleep: "0"},
		// Who was about to sleep doesn't any more; nor does who comes only now.
		trial.Leg{Thread: 2, Steps: 5, Cells: "2 1", Asleep: "0", Said: "0"},
		trial.Leg{Thread: 3, Steps: 8, Cells: "2 1", Asleep: "0", Said: "0"},
		trial.Leg{Thread: 1, Steps: 1, Cells: "2 1"},
		trial.Leg{Thread: 0, Steps: 4, Cells: "2 1", Said: "0"},
		trial.Leg{Thread: 1, Steps: 2, Cells: "2 1", Said: "1"},
		// Once more it isn't done, not even by who did it.
		trial.Leg{Thread: 1, Steps: 9, Cells: "2 1", Said: "0"},
		trial.Leg{Thread: 0, Steps: 9, Cells: "2 1", Said: "0"},
	); wrong != "" {
		t.Error(wrong)
	}
}

func TestWhoIsWokenForNothingLooksAgain(t *testing.T) {
	c, err := kind.New([][]api.Call{asks(1), asks(1)}, 0, 0)
	if err != nil {
		t.Fatal(err)
	}
	if wrong := trial.Walk(c, trial.Leg{Thread: 0, Steps: 5, Cells: "1 0"}, trial.Leg{Thread: 1, Steps: 8, Cells: "1 0", Asleep: "1"}); wrong != "" {
		t.Fatal(wrong)
	}
	if err := c.Poke(1); err != nil {
		t.Fatal(err)
	}
	if wrong := trial.Walk(c,
		trial.Leg{Thread: 1, Steps: 3, Cells: "1 0"},
		trial.Leg{Thread: 1, Steps: 1, Cells: "1 0", Asleep: "1"},
		trial.Leg{Thread: 0, Steps: 6, Cells: "2 1", Said: "1"},
		trial.Leg{Thread: 1, Steps: 5, Cells: "2 1", Said: "0"},
	); wrong != "" {
		t.Error(wrong)
	}
}
