package mutex_test

import (
	"fmt"
	"math/rand"
	"slices"
	"testing"

	"quadrille/api"
	"quadrille/core"
	"quadrille/mutex"
	"quadrille/trial"
)

// kind is how these programs are made, and how the document writes their calls.
var kind = trial.Calls{Code: mutex.Code, Text: trial.Texts(map[int]string{
	api.Lock:   "let 5 0; let 6 1; let 4 2; swap 3 0 5 6; same 3 1 p+14; load 1 0; same 1 0 p+12; same 1 2 p+10; swap 3 0 6 4; same 3 0 p+5; wait 0 4; jump p+5; swap 3 0 5 4; same 3 0 p+5; say 3 5",
	api.Unlock: "let 5 0; load 1 0; swap 3 0 1 5; same 3 0 p+1; same 1 2 p+6; jump p+7; wake 0 1 -1; say 3 1",
})}

// lock and unlock are calls.
var lock, unlock = api.Call{What: api.Lock}, api.Call{What: api.Unlock}

// ask is a list of calls.
func ask(l ...api.Call) []api.Call { return l }

func TestFace(t *testing.T) {
	if wrong := kind.Face(); wrong != "" {
		t.Error(wrong)
	}
}

func TestCodeIsWhole(t *testing.T) {
	for text, calls := range map[string][]api.Call{
		"halt": nil,
		"let 5 0; load 1 0; swap 3 0 1 5; same 3 0 1; same 1 2 6; jump 7; wake 0 1 -1; say 3 1; halt": ask(unlock),
		"let 5 0; load 1 0; swap 3 0 1 5; same 3 0 1; same 1 2 6; jump 7; wake 0 1 -1; say 3 1; let 5 0; let 6 1; let 4 2; swap 3 0 5 6; same 3 1 22; load 1 0; same 1 0 20; same 1 2 18; swap 3 0 6 4; same 3 0 13; wait 0 4; jump 13; swap 3 0 5 4; same 3 0 13; say 3 5; halt": ask(unlock, lock),
	} {
		if wrong := kind.Whole(text, calls...); wrong != "" {
			t.Errorf("%v: %s", calls, wrong)
		}
	}
}

func TestCodeIsOfOneCell(t *testing.T) {
	if wrong := kind.Room(139, 1, slices.Repeat(ask(lock, unlock), 6)...); wrong != "" {
		t.Error(wrong)
	}
}

// locked are threads that ask for calls, where at first the cell is as it is told.
type locked struct {
	state   uint64
	threads [][]api.Call
}

// machine is what is tried of them.
func (x locked) machine(t *testing.T) trial.Machine {
	t.Helper()
	p, err := kind.Programs(x.threads)
	if err != nil {
		t.Fatalf("%v: %v", x, err)
	}
	return trial.Machine{Programs: p, Cells: []uint64{x.state}, Now: x.now, Last: x.last}
}

// held is how many have locked, and were answered, and didn't unlock since; who unlocks is done with it as soon as it tells the cell so.
func (x locked) held(c *core.Core) int {
	n := int(min(x.state, 1))
	for _, a := range trial.Answers(c, x.threads) {
		if a.Call == lock {
			n++
		}
	}
	for _, a := range c.Acts() {
		if a.Op == api.Swap && a.Old > 0 && a.Now == 0 {
			n--
		}
	}
	return n
}

// now tells what is wrong wherever it stands: one at a time has locked, and each call did what it is answered.
func (x locked) now(c *core.Core) string {
	if x.held(c) > 1 {
		return "two have locked"
	}
	last, ok := trial.LastAnswer(c, x.threads)
	if !ok {
		return ""
	}
	act := trial.LastAct(c, last.Thread)
	switch {
	case act.Op != api.Swap || act.Old != uint64(last.Value):
		return "another answer"
	case last.Call == lock && (act.Old != 0 || act.Now == 0):
		return "answered, and didn't lock"
	case last.Call == unlock && act.Now != 0:
		return "answered, and didn't unlock"
	case last.Call != lock && last.Call != unlock:
		return "no call is answered"
	}
	return ""
}

// last tells what is wrong where nobody goes on any more: who isn't at its end sleeps, as another one has locked, and is known to wait.
func (x locked) last(c *core.Core) string {
	state := c.Cells()[0]
	if held := x.held(c); held < 0 || held > 1 || held == 0 != (state == 0) || state > 2 {
		return fmt.Sprintf("%d have locked, and the cell is %d", held, state)
	}
	for _, w := range trial.Waits(c, x.threads) {
		if w.Cell != 0 || w.Call != lock || state != 2 {
			return fmt.Sprintf("%v isn't at its end, and the cell is %d", w, state)
		}
	}
	return ""
}

func TestOneAtATimeInAnyOrder(t *testing.T) {
	both := ask(lock, unlock)
	for _, x := range []locked{
		{0, [][]api.Call{both}},
		{0, [][]api.Call{both, both}},
		{0, [][]api.Call{both, slices.Repeat(both, 2)}},
		{0, [][]api.Call{slices.Repeat(both, 2), slices.Repeat(both, 2)}},
		{0, [][]api.Call{both, both, both}},
		// Who unlocks isn't always who locked.
		{1, [][]api.Call{both, ask(unlock)}},
		{2, [][]api.Call{both, ask(unlock)}},
		{0, [][]api.Call{ask(lock), ask(lock), ask(unlock)}},
		{0, [][]api.Call{ask(lock, lock), ask(unlock, unlock)}},
		{2, [][]api.Call{ask(lock), both, ask(unlock)}},
		{1, [][]api.Call{ask(unlock), ask(unlock), both}},
		// Of these some sleep in the end.
		{0, [][]api.Call{ask(lock, lock)}},
		{0, [][]api.Call{ask(lock), ask(lock)}},
		{1, [][]api.Call{both, both}},
		{2, [][]api.Call{both, both}},
		{0, [][]api.Call{both, both, ask(lock)}},
	} {
		if n, wrong := x.machine(t).All(); wrong != "" {
			t.Errorf("%v: %s, in the last one of %d states", x, wrong, n)
		}
	}
}

func TestOneAtATimeOfMany(t *testing.T) {
	random := rand.New(rand.NewSource(1))
	for range 200 {
		// Each unlocks what it locked; or anybody asks for anything.
		x := locked{0, trial.Lists(random.Intn, ask(lock, unlock))}
		if random.Intn(2) == 0 {
			x = locked{uint64(random.Intn(3)), trial.Lists(random.Intn, ask(lock), ask(unlock))}
		}
		if wrong := x.machine(t).Some(random.Intn); wrong != "" {
			t.Errorf("%v: %s", x, wrong)
		}
	}
}

func TestWhoIsAloneNeitherLooksNorWakes(t *testing.T) {
	if wrong := kind.Walk([][]api.Call{ask(lock, unlock, unlock)}, []uint64{0},
		trial.Leg{Thread: 0, Steps: 6, Cells: "1", Said: "0"},
		trial.Leg{Thread: 0, Steps: 7, Cells: "0", Said: "1"},
		// What is free is unlocked as well.
		trial.Leg{Thread: 0, Steps: 8, Cells: "0", Said: "0"},
	); wrong != "" {
		t.Error(wrong)
	}
}

func TestUnlockWakesWhoFellAsleepFirst(t *testing.T) {
	both := ask(lock, unlock)
	if wrong := kind.Walk([][]api.Call{both, both, both}, []uint64{0},
		trial.Leg{Thread: 1, Steps: 6, Cells: "1", Said: "0"},
		// The first one that waits tells so, and the other one finds that told.
		trial.Leg{Thread: 2, Steps: 11, Cells: "2", Asleep: "2"},
		trial.Leg{Thread: 0, Steps: 9, Cells: "2", Asleep: "0 2"},
		trial.Leg{Thread: 1, Steps: 5, Cells: "0", Asleep: "0 2"},
		trial.Leg{Thread: 1, Steps: 1, Cells: "0", Asleep: "0"},
		trial.Leg{Thread: 1, Steps: 2, Cells: "0", Asleep: "0", Said: "2"},
		// Who was woken lets it be awaited, and so wakes the other one.
		trial.Leg{Thread: 2, Steps: 6, Cells: "2", Asleep: "0", Said: "0"},
		trial.Leg{Thread: 2, Steps: 8, Cells: "0", Said: "2"},
		trial.Leg{Thread: 0, Steps: 6, Cells: "2", Said: "0"},
		trial.Leg{Thread: 0, Steps: 8, Cells: "0", Said: "2"},
	); wrong != "" {
		t.Error(wrong)
	}
}

func TestWhoIsFasterThanOneWhoIsWokenLocks(t *testing.T) {
	both := ask(lock, unlock)
	if wrong := kind.Walk([][]api.Call{slices.Repeat(both, 2), both}, []uint64{0},
		trial.Leg{Thread: 0, Steps: 6, Cells: "1", Said: "0"},
		trial.Leg{Thread: 1, Steps: 11, Cells: "2", Asleep: "1"},
		trial.Leg{Thread: 0, Steps: 7, Cells: "0", Said: "2"},
		trial.Leg{Thread: 0, Steps: 6, Cells: "1", Said: "0"},
		trial.Leg{Thread: 1, Steps: 7, Cells: "2", Asleep: "1"},
		trial.Leg{Thread: 0, Steps: 8, Cells: "0", Said: "2"},
		trial.Leg{Thread: 1, Steps: 6, Cells: "2", Said: "0"},
		trial.Leg{Thread: 1, Steps: 8, Cells: "0", Said: "2"},
	); wrong != "" {
		t.Error(wrong)
	}
}
