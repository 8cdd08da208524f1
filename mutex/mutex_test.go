package mutex_test

import (
	"fmt"
	"math/rand"
	"slices"
	"testing"

	"quadrille/api"
	"quadrille/code"
	"quadrille/core"
	"quadrille/mutex"
	"quadrille/trial"
)

// kind is how these programs are made, and how the document writes their calls.
var kind = trial.Calls{Code: mutex.Code, Text: trial.Texts(map[int]string{
	api.Lock:   "let 5 0; let 6 1; let 4 2; swap 3 0 5 6; same 3 1 p+14; load 1 0; same 1 0 p+12; same 1 2 p+10; swap 3 0 6 4; same 3 0 p+5; wait 0 4; jump p+5; swap 3 0 5 4; same 3 0 p+5; say 3 5",
	api.Unlock: "let 5 0; load 1 0; swap 3 0 1 5; same 3 0 p+1; same 1 2 p+6; jump p+7; wake 0 1 -1; say 3 1",
})}

// lock and unlock are calls.
var lock, unlock = api.Call{What: api.Lock}, api.Call{What: api.Unlock}

// ask is a list of calls.
func ask(l ...api.Call) []api.Call { return l }

func TestFace(t *testing.T) {
	if wrong := kind.Face(); wrong != "" {
		t.Error(wrong)
	}
}

func TestCodeOfNoneOneAndTwo(t *testing.T) {
	for _, x := range []struct {
		calls []api.Call
		text  string
	}{
		{nil, "halt\n"},
		{ask(), "halt\n"},
		{ask(unlock), "let 5 0\nload 1 0\nswap 3 0 1 5\nsame 3 0 1\nsame 1 2 6\njump 7\nwake 0 1 -1\nsay 3 1\nhalt\n"},
		{ask(unlock, lock), "let 5 0\nload 1 0\nswap 3 0 1 5\nsame 3 0 1\nsame 1 2 6\njump 7\nwake 0 1 -1\nsay 3 1\n" +
			"let 5 0\nlet 6 1\nlet 4 2\nswap 3 0 5 6\nsame 3 1 22\nload 1 0\nsame 1 0 20\nsame 1 2 18\nswap 3 0 6 4\nsame 3 0 13\nwait 0 4\njump 13\nswap 3 0 5 4\nsame 3 0 13\nsay 3 5\nhalt\n"},
	} {
		p, err := mutex.Code(x.calls)
		if got, _ := code.Print(p); got != x.text || err != nil {
			t.Errorf("%v: got %q, %v", x.calls, got, err)
		}
	}
}

func TestCodeIsOfOneCell(t *testing.T) {
	p, err := mutex.Code(slices.Repeat(ask(lock, unlock), 6))
	if err != nil || len(p) != 139 {
		t.Fatalf("got %d instructions, %v", len(p), err)
	}
	if _, err := core.New([][]api.Ins{p}, make([]uint64, 1)); err != nil {
		t.Error(err)
	}
}

// locked are threads that ask for calls, where at first the cell is as it is told.
type locked struct {
	state   uint64
	threads [][]api.Call
}

// machine is what is tried of them.
func (x locked) machine(t *testing.T) trial.Machine {
	t.Helper()
	p, err := kind.Programs(x.threads)
	if err != nil {
		t.Fatalf("%v: %v", x, err)
	}
	return trial.Machine{Programs: p, Cells: []uint64{x.state}, Now: x.now, Last: x.last}
}

// held is how many have locked, and were answered, and didn't unlock since; who unlocks is done with it as soon as it tells the cell so.
func (x locked) held(c *core.Core) int {
	n := int(min(x.state, 1))
	for _, a := range trial.Answers(c, x.threads) {
		if a.Call == lock {
			n++
		}
	}
	for _, a := range c.Acts() {
		if a.Op == api.Swap && a.Old > 0 && a.Now == 0 {
			n--
		}
	}
	return n
}

// now tells what is wrong wherever it stands: one at a time has locked, and each call did what it is answered.
func (x locked) now(c *core.Core) string {
	if x.held(c) > 1 {
		return "two have locked"
	}
	last, ok := trial.LastAnswer(c, x.threads)
	if !ok {
		return ""
	}
	act := trial.LastAct(c, last.Thread)
	switch {
	case act.Op != api.Swap || act.Old != uint64(last.Value):
		return "another answer"
	case last.Call == lock && (act.Old != 0 || act.Now == 0):
		return "answered, and didn't lock"
	case last.Call == unlock && act.Now != 0:
		return "answered, and didn't unlock"
	case last.Call != lock && last.Call != unlock:
		return "no call is answered"
	}
	return ""
}

// last tells what is wrong where nobody goes on any more: who isn't at its end sleeps, as another one has locked, and is known to wait.
func (x locked) last(c *core.Core) string {
	state := c.Cells()[0]
	if held := x.held(c); held < 0 || held > 1 || held == 0 != (state == 0) || state > 2 {
		return fmt.Sprintf("%d have locked, and the cell is %d", held, state)
	}
	for _, w := range trial.Waits(c, x.threads) {
		if w.Cell != 0 || w.Call != lock || state != 2 {
			return fmt.Sprintf("%v isn't at its end, and the cell is %d", w, state)
		}
	}
	return ""
}

func TestOneAtATimeInAnyOrder(t *testing.T) {
	both := ask(lock, unlock)
	for _, x := range []locked{
		{0, [][]api.Call{both}},
		{0, [][]api.Call{both, both}},
		{0, [][]api.Call{both, slices.Repeat(both, 2)}},
		{0, [][]api.Call{slices.Repeat(both, 2), slices.Repeat(both, 2)}},
		{0, [][]api.Call{both, both, both}},
		// Who unlocks isn't always who locked.
		{1, [][]api.Call{both, ask(unlock)}},
		{2, [][]api.Call{both, ask(unlock)}},
		{0, [][]api.Call{ask(lock), ask(lock), ask(unlock)}},
		{0, [][]api.Call{ask(lock, lock), ask(unlock, unlock)}},
		{2, [][]api.Call{ask(lock), both, ask(unlock)}},
		{1, [][]api.Call{ask(unlock), ask(unlock), both}},
		// Of these some sleep in the end.
		{0, [][]api.Call{ask(lock, lock)}},
		{0, [][]api.Call{ask(lock), ask(lock)}},
		{1, [][]api.Call{both, both}},
		{2, [][]api.Call{both, both}},
		{0, [][]api.Call{both, both, ask(lock)}},
	} {
		if n, wrong := x.machine(t).All(); wrong != "" {
			t.Errorf("%v: %s, in the last one of %d states", x, wrong, n)
		}
	}
}

func TestOneAtATimeOfMany(t *testing.T) {
	random := rand.New(rand.NewSource(1))
	for range 200 {
		// Each unlocks what it locked; or anybody asks for anything.
		x := locked{0, trial.Lists(random.Intn, ask(lock, unlock))}
		if random.Intn(2) == 0 {
			x = locked{uint64(random.Intn(3)), trial.Lists(random.Intn, ask(lock), ask(unlock))}
		}
		if wrong := x.machine(t).Some(random.Intn); wrong != "" {
			t.Errorf("%v: %s", x, wrong)
		}
	}
}

// start is a new machine of threads, of which nobody has locked.
func start(t *testing.T, threads ...[]api.Call) *core.Core {
	t.Helper()
	p, err := kind.Programs(threads)
	if err != nil {
		t.Fatal(err)
	}
	c, err := core.New(p, []uint64{0})
	if err != nil {
		t.Fatal(err)
	}
	return c
}

// goes lets a thread go on for so many steps, and checks what the cell is then, and who sleeps.
func goes(t *testing.T, c *core.Core, thread, steps int, state uint64, asleep ...int) {
	t.Helper()
	if n := c.Run(slices.Repeat([]int{thread}, steps)); n != steps {
		t.Fatalf("step %d: thread %d did %d steps, not %d", c.Steps(), thread, n, steps)
	}
	var l []int
	for k := range c.Threads() {
		if _, cell, err := c.At(k); err == nil && cell == 0 {
			l = append(l, k)
		}
	}
	if got := c.Cells()[0]; got != state || !slices.Equal(l, asleep) {
		t.Fatalf("step %d: the cell is %d, not %d, and %v sleep, not %v", c.Steps(), got, state, l, asleep)
	}
}

func TestWhoIsAloneNeitherLooksNorWakes(t *testing.T) {
	c := start(t, ask(lock, unlock, unlock))
	goes(t, c, 0, 6, 1)
	goes(t, c, 0, 7, 0)
	// What is free is unlocked as well.
	goes(t, c, 0, 8, 0)
	if got := fmt.Sprint(c.Events()); got != "[{6 3 0 0} {13 3 0 1} {20 3 0 0}]" {
		t.Errorf("got %s", got)
	}
}

func TestUnlockWakesWhoFellAsleepFirst(t *testing.T) {
	both := ask(lock, unlock)
	c := start(t, both, both, both)
	goes(t, c, 1, 6, 1)
	// The first one that waits tells so, and the other one finds that told.
	goes(t, c, 2, 11, 2, 2)
	goes(t, c, 0, 9, 2, 0, 2)
	goes(t, c, 1, 5, 0, 0, 2)
	goes(t, c, 1, 1, 0, 0)
	goes(t, c, 1, 2, 0, 0)
	// Who was woken lets it be awaited, and so wakes the other one.
	goes(t, c, 2, 6, 2, 0)
	goes(t, c, 2, 8, 0)
	goes(t, c, 0, 6, 2)
	goes(t, c, 0, 8, 0)
	if got := fmt.Sprint(c.Events()); got != "[{6 3 1 0} {33 3 1 2} {40 3 2 0} {47 3 2 2} {54 3 0 0} {61 3 0 2}]" {
		t.Errorf("got %s", got)
	}
}

func TestWhoIsFasterThanOneWhoIsWokenLocks(t *testing.T) {
	both := ask(lock, unlock)
	c := start(t, slices.Repeat(both, 2), both)
	goes(t, c, 0, 6, 1)
	goes(t, c, 1, 11, 2, 1)
	goes(t, c, 0, 7, 0)
	goes(t, c, 0, 6, 1)
	goes(t, c, 1, 7, 2, 1)
	goes(t, c, 0, 8, 0)
	goes(t, c, 1, 6, 2)
	goes(t, c, 1, 8, 0)
	if all, _ := c.Ends(); !all {
		t.Error("not all are at their ends")
	}
}
