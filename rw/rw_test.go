package rw_test

import (
	"fmt"
	"math/rand"
	"slices"
	"testing"

	"quadrille/api"
	"quadrille/core"
	"quadrille/rw"
	"quadrille/trial"
)

// kind is how these programs are made, and how the document writes their calls.
var kind = trial.Calls{Code: rw.Code, Text: trial.Texts(map[int]string{
	api.Share:   "load 1 0; field 2 1 32 1; same 2 1 p+7; plus 4 1 1; swap 3 0 1 4; same 3 0 p; jump p+9; wait 0 1; jump p; say 3 4",
	api.Unshare: "fetch 1 0 -1; plus 1 1 -1; wake 0 16 -1; say 3 1",
	api.Own:     "load 1 0; same 1 0 p+4; wait 0 1; jump p; let 4 4294967296; swap 3 0 1 4; same 3 0 p; say 3 1",
	api.Disown:  "let 1 0; store 0 1 -1; wake 0 16 -1; say 3 1",
})}

// changer is the cell while one changes, and nobody else does or looks.
const changer = 4294967296

// Calls.
var (
	share   = api.Call{What: api.Share}
	unshare = api.Call{What: api.Unshare}
	own     = api.Call{What: api.Own}
	disown  = api.Call{What: api.Disown}
)

// ask is a list of calls.
func ask(l ...api.Call) []api.Call { return l }

// looks and changes are lists of one who is done with what it has.
var looks, changes = ask(share, unshare), ask(own, disown)

func TestFace(t *testing.T) {
	if wrong := kind.Face(); wrong != "" {
		t.Error(wrong)
	}
}

func TestCodeIsWhole(t *testing.T) {
	for text, calls := range map[string][]api.Call{
		"halt": nil,
		"load 1 0; field 2 1 32 1; same 2 1 7; plus 4 1 1; swap 3 0 1 4; same 3 0 0; jump 9; wait 0 1; jump 0; say 3 4; halt":                                                                               ask(share),
		"fetch 1 0 -1; plus 1 1 -1; wake 0 16 -1; say 3 1; load 1 0; field 2 1 32 1; same 2 1 11; plus 4 1 1; swap 3 0 1 4; same 3 0 4; jump 13; wait 0 1; jump 4; say 3 4; halt":                           ask(unshare, share),
		"load 1 0; same 1 0 4; wait 0 1; jump 0; let 4 4294967296; swap 3 0 1 4; same 3 0 0; say 3 1; let 1 0; store 0 1 -1; wake 0 16 -1; say 3 1; halt":                                                   changes,
		"let 1 0; store 0 1 -1; wake 0 16 -1; say 3 1; load 1 0; same 1 0 8; wait 0 1; jump 4; let 4 4294967296; swap 3 0 1 4; same 3 0 4; say 3 1; fetch 1 0 -1; plus 1 1 -1; wake 0 16 -1; say 3 1; halt": ask(disown, own, unshare),
	} {
		if wrong := kind.Whole(text, calls...); wrong != "" {
			t.Errorf("%v: %s", calls, wrong)
		}
	}
}

func TestCodeIsOfOneCell(t *testing.T) {
	if wrong := kind.Room(79, 1, slices.Repeat(slices.Concat(looks, changes), 3)...); wrong != "" {
		t.Error(wrong)
	}
}

// guarded are threads that ask for calls, where at first the cell is as it is told. Of wild ones somebody may be done with what nobody has.
type guarded struct {
	state   uint64
	wild    bool
	threads [][]api.Call
}

// machine is what is tried of them.
func (x guarded) machine(t *testing.T) trial.Machine {
	t.Helper()
	p, err := kind.Programs(x.threads)
	if err != nil {
		t.Fatalf("%v: %v", x, err)
	}
	return trial.Machine{Programs: p, Cells: []uint64{x.state}, Now: x.now, Last: x.last}
}

// had is how many look, and how many change: those who were answered, till they tell the cell that they are done.
func (x guarded) had(c *core.Core) (look, change int) {
	look, change = int(x.state%changer), int(x.state/changer)
	for _, a := range trial.Answers(c, x.threads) {
		switch a.Call {
		case share:
			look++
		case own:
			change++
		}
	}
	for _, a := range c.Acts() {
		switch a.Op {
		case api.Fetch:
			look--
		case api.Store:
			change--
		}
	}
	return look, change
}

// comes is what comes of a call where the cell is so: what that is then, if it is done.
func comes(call api.Call, state uint64) (uint64, bool) {
	switch call {
	case share:
		return state + 1, state/changer%2 == 0
	case unshare:
		return state - 1, true
	case own:
		return changer, state == 0
	case disown:
		return 0, true
	}
	return 0, false
}

// did is how often a thread did to the cell what a call does.
func did(c *core.Core, thread int) int {
	n := 0
	for _, a := range c.Acts() {
		if a.Thread == thread && (a.Op == api.Fetch || a.Op == api.Store || a.Old != a.Now) {
			n++
		}
	}
	return n
}

// now tells what is wrong wherever it stands: many look, or one changes, and each call was done once when it is answered.
func (x guarded) now(c *core.Core) string {
	if look, change := x.had(c); !x.wild && change > 0 && look+change > 1 {
		return fmt.Sprintf("%d look, and %d change", look, change)
	}
	last, ok := trial.LastAnswer(c, x.threads)
	if !ok {
		return ""
	}
	act := trial.LastAct(c, last.Thread)
	then, done := comes(last.Call, act.Old)
	// Who owns is told what there was, and any other one what is then.
	answer := then
	if last.Call == own {
		answer = act.Old
	}
	switch {
	case !done || act.Now != then:
		return "answered, and wasn't done"
	case uint64(last.Value) != answer:
		return "another answer"
	}
	return x.each(c, last.Thread)
}

// each tells what is wrong with a thread that isn't amid a call: each call that is answered was done once, and no other one was.
func (x guarded) each(c *core.Core, thread int) string {
	answered := 0
	for _, a := range trial.Answers(c, x.threads) {
		if a.Thread == thread {
			answered++
		}
	}
	if n := did(c, thread); n != answered {
		return fmt.Sprintf("of thread %d %d calls are answered, and %d were done", thread, answered, n)
	}
	return ""
}

// last tells what is wrong where nobody goes on any more: who isn't at its end sleeps, as the cell doesn't let it.
func (x guarded) last(c *core.Core) string {
	state := c.Cells()[0]
	if look, change := x.had(c); !x.wild && state != uint64(look)+changer*uint64(change) {
		return fmt.Sprintf("%d look, and %d change, and the cell is %d", look, change, state)
	}
	for thread := range x.threads {
		if wrong := x.each(c, thread); wrong != "" {
			return wrong
		}
	}
	for _, w := range trial.Waits(c, x.threads) {
		_, done := comes(w.Call, state)
		if w.Cell != 0 || done || w.Call == (api.Call{}) {
			return fmt.Sprintf("%v isn't at its end, and the cell is %d", w, state)
		}
	}
	return ""
}

func TestManyLookOrOneChangesInAnyOrder(t *testing.T) {
	for _, x := range []guarded{
		{threads: [][]api.Call{looks}},
		{threads: [][]api.Call{changes}},
		{threads: [][]api.Call{looks, looks}},
		{threads: [][]api.Call{looks, changes}},
		{threads: [][]api.Call{changes, changes}},
		{threads: [][]api.Call{slices.Concat(looks, changes), slices.Concat(changes, looks)}},
		{threads: [][]api.Call{slices.Repeat(looks, 2), slices.Repeat(changes, 2)}},
		{threads: [][]api.Call{looks, looks, looks}},
		{threads: [][]api.Call{looks, looks, changes}},
		{threads: [][]api.Call{looks, changes, changes}},
		{threads: [][]api.Call{changes, changes, changes}},
		// Who is done isn't always who began.
		{state: 2, threads: [][]api.Call{ask(unshare), ask(unshare), changes}},
		{state: changer, threads: [][]api.Call{ask(disown), looks, changes}},
		{state: changer, threads: [][]api.Call{ask(disown), ask(share), ask(share)}},
		{state: 1, threads: [][]api.Call{ask(own), ask(unshare, share)}},
		// Of these some sleep in the end.
		{threads: [][]api.Call{ask(share, own)}},
		{threads: [][]api.Call{ask(own, share)}},
		{threads: [][]api.Call{ask(own, own)}},
		{threads: [][]api.Call{ask(share), ask(own), looks}},
		{threads: [][]api.Call{ask(own), looks, changes}},
		{state: 3, threads: [][]api.Call{looks, changes}},
		{state: changer, threads: [][]api.Call{looks, changes}},
		// Whoever asks for what, a call is done, or not.
		{wild: true, threads: [][]api.Call{ask(unshare), looks, changes}},
		{wild: true, threads: [][]api.Call{ask(disown), looks, changes}},
		{wild: true, state: changer - 1, threads: [][]api.Call{looks, ask(share)}},
		{wild: true, state: changer, threads: [][]api.Call{ask(unshare, share), changes}},
		{wild: true, state: 2 * changer, threads: [][]api.Call{looks, ask(disown), ask(own)}},
	} {
		if n, wrong := x.machine(t).All(); wrong != "" {
			t.Errorf("%v: %s, in the last one of %d states", x, wrong, n)
		}
	}
}

func TestManyLookOrOneChangesOfMany(t *testing.T) {
	random := rand.New(rand.NewSource(1))
	for range 200 {
		// Each is done with what it has itself; or anybody asks for anything.
		x := guarded{threads: trial.Lists(random.Intn, looks, changes)}
		if random.Intn(2) == 0 {
			x = guarded{uint64(random.Intn(3)), true, trial.Lists(random.Intn, ask(share), ask(unshare), ask(own), ask(disown))}
		}
		if wrong := x.machine(t).Some(random.Intn); wrong != "" {
			t.Errorf("%v: %s", x, wrong)
		}
	}
}

func TestWhoLooksDoesNotWaitForOthersWhoDo(t *testing.T) {
	if wrong := kind.Walk([][]api.Call{looks, looks, looks, changes}, []uint64{0},
		trial.Leg{Thread: 0, Steps: 8, Cells: "1", Said: "1"},
		trial.Leg{Thread: 1, Steps: 8, Cells: "2", Said: "2"},
		trial.Leg{Thread: 2, Steps: 8, Cells: "3", Said: "3"},
		trial.Leg{Thread: 3, Steps: 3, Cells: "3", Asleep: "3"},
		// Each who is done wakes who is to change, which sleeps again while others look.
		trial.Leg{Thread: 1, Steps: 2, Cells: "2", Asleep: "3"},
		trial.Leg{Thread: 1, Steps: 2, Cells: "2", Said: "2"},
		trial.Leg{Thread: 3, Steps: 4, Cells: "2", Asleep: "3"},
		trial.Leg{Thread: 0, Steps: 4, Cells: "1", Said: "1"},
		trial.Leg{Thread: 3, Steps: 4, Cells: "1", Asleep: "3"},
		trial.Leg{Thread: 2, Steps: 4, Cells: "0", Said: "0"},
		trial.Leg{Thread: 3, Steps: 7, Cells: "4294967296", Said: "0"},
		trial.Leg{Thread: 3, Steps: 5, Cells: "0", Said: "0"},
	); wrong != "" {
		t.Error(wrong)
	}
}

func TestWhoChangesIsAlone(t *testing.T) {
	if wrong := kind.Walk([][]api.Call{changes, looks, changes, looks}, []uint64{0},
		trial.Leg{Thread: 0, Steps: 6, Cells: "4294967296", Said: "0"},
		trial.Leg{Thread: 1, Steps: 4, Cells: "4294967296", Asleep: "1"},
		trial.Leg{Thread: 2, Steps: 3, Cells: "4294967296", Asleep: "1 2"},
		trial.Leg{Thread: 3, Steps: 4, Cells: "4294967296", Asleep: "1 2 3"},
		// Who is done lets all others go on, and whoever is fastest is next.
		trial.Leg{Thread: 0, Steps: 2, Cells: "0", Asleep: "1 2 3"},
		trial.Leg{Thread: 0, Steps: 2, Cells: "0", Said: "0"},
		trial.Leg{Thread: 3, Steps: 9, Cells: "1", Said: "1"},
		trial.Leg{Thread: 2, Steps: 4, Cells: "1", Asleep: "2"},
		trial.Leg{Thread: 1, Steps: 9, Cells: "2", Asleep: "2", Said: "2"},
		trial.Leg{Thread: 1, Steps: 4, Cells: "1", Said: "1"},
		trial.Leg{Thread: 2, Steps: 4, Cells: "1", Asleep: "2"},
		trial.Leg{Thread: 3, Steps: 4, Cells: "0", Said: "0"},
		trial.Leg{Thread: 2, Steps: 7, Cells: "4294967296", Said: "0"},
		trial.Leg{Thread: 2, Steps: 5, Cells: "0", Said: "0"},
	); wrong != "" {
		t.Error(wrong)
	}
}

func TestWhoFindsTheCellChangedLooksAgain(t *testing.T) {
	if wrong := kind.Walk([][]api.Call{looks, changes, looks}, []uint64{0},
		trial.Leg{Thread: 0, Steps: 4, Cells: "0"},
		trial.Leg{Thread: 1, Steps: 3, Cells: "0"},
		trial.Leg{Thread: 2, Steps: 4, Cells: "0"},
		trial.Leg{Thread: 0, Steps: 4, Cells: "1", Said: "1"},
		trial.Leg{Thread: 1, Steps: 4, Cells: "1"},
		trial.Leg{Thread: 2, Steps: 2, Cells: "1"},
		trial.Leg{Thread: 2, Steps: 8, Cells: "2", Said: "2"},
		// Where it saw 1 there is 2 by now: so who is to change doesn't sleep yet.
		trial.Leg{Thread: 1, Steps: 1, Cells: "2"},
		trial.Leg{Thread: 1, Steps: 4, Cells: "2", Asleep: "1"},
		trial.Leg{Thread: 0, Steps: 4, Cells: "1", Said: "1"},
		trial.Leg{Thread: 2, Steps: 4, Cells: "0", Said: "0"},
		trial.Leg{Thread: 1, Steps: 7, Cells: "4294967296", Said: "0"},
	); wrong != "" {
		t.Error(wrong)
	}
}

func TestWhoIsDoneWithWhatNobodyHasIsAnswered(t *testing.T) {
	if wrong := kind.Walk([][]api.Call{ask(unshare), ask(share), ask(own), ask(disown, disown)}, []uint64{0},
		// One less than 0 looks like one who changes.
		trial.Leg{Thread: 0, Steps: 5, Cells: "18446744073709551615", Said: "-1"},
		trial.Leg{Thread: 1, Steps: 4, Cells: "18446744073709551615", Asleep: "1"},
		trial.Leg{Thread: 2, Steps: 3, Cells: "18446744073709551615", Asleep: "1 2"},
		trial.Leg{Thread: 3, Steps: 4, Cells: "0", Said: "0"},
		trial.Leg{Thread: 3, Steps: 5, Cells: "0", Said: "0"},
		trial.Leg{Thread: 1, Steps: 9, Cells: "1", Said: "1"},
		trial.Leg{Thread: 2, Steps: 4, Cells: "1", Asleep: "2"},
	); wrong != "" {
		t.Error(wrong)
	}
}
