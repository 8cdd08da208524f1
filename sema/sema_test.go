package sema_test

import (
	"fmt"
	"math/rand"
	"slices"
	"testing"

	"quadrille/api"
	"quadrille/core"
	"quadrille/sema"
	"quadrille/trial"
)

// kind is how these programs are made, and how the document writes their calls.
var kind = trial.Calls{Code: sema.Code, Text: trial.Texts(map[int]string{
	api.Take: "load 1 0; same 1 0 p+6; plus 2 1 -1; swap 3 0 1 2; same 3 0 p; jump p+8; wait 0 1; jump p; say 3 2",
	api.Give: "fetch 1 0 1; plus 2 1 1; wake 0 1 -1; say 3 2",
})}

// take and give are calls.
var take, give = api.Call{What: api.Take}, api.Call{What: api.Give}

// ask is a list of calls.
func ask(l ...api.Call) []api.Call { return l }

func TestFace(t *testing.T) {
	if wrong := kind.Face(); wrong != "" {
		t.Error(wrong)
	}
}

func TestCodeIsWhole(t *testing.T) {
	for text, calls := range map[string][]api.Call{
		"halt": nil,
		"fetch 1 0 1; plus 2 1 1; wake 0 1 -1; say 3 2; halt": ask(give),
		"fetch 1 0 1; plus 2 1 1; wake 0 1 -1; say 3 2; load 1 0; same 1 0 10; plus 2 1 -1; swap 3 0 1 2; same 3 0 4; jump 12; wait 0 1; jump 4; say 3 2; halt": ask(give, take),
	} {
		if wrong := kind.Whole(text, calls...); wrong != "" {
			t.Errorf("%v: %s", calls, wrong)
		}
	}
}

func TestCodeIsOfOneCell(t *testing.T) {
	if wrong := kind.Room(79, 1, slices.Repeat(ask(take, give), 6)...); wrong != "" {
		t.Error(wrong)
	}
}

// shared are threads that ask for calls, where at first so many may.
type shared struct {
	may     int
	threads [][]api.Call
}

// machine is what is tried of them.
func (x shared) machine(t *testing.T) trial.Machine {
	t.Helper()
	p, err := kind.Programs(x.threads)
	if err != nil {
		t.Fatalf("%v: %v", x, err)
	}
	return trial.Machine{Programs: p, Cells: []uint64{uint64(x.may)}, Now: x.now, Last: x.last}
}

// now tells what is wrong wherever it stands: never more have taken than may, and a call is answered how many may when it was done.
func (x shared) now(c *core.Core) string {
	may := x.may
	for _, a := range c.Acts() {
		// A Give lets one more as soon as it tells the cell so, ahead of its answer.
		if a.Op == api.Fetch {
			may++
		}
	}
	for _, a := range trial.Answers(c, x.threads) {
		if a.Call == take {
			may--
		}
	}
	if may < 0 {
		return "more have taken than may"
	}
	last, ok := trial.LastAnswer(c, x.threads)
	if !ok {
		return ""
	}
	act := trial.LastAct(c, last.Thread)
	switch {
	case last.Call == take && (act.Op != api.Swap || act.Old == 0 || act.Now != act.Old-1):
		return "answered, and took nothing"
	case last.Call == give && (act.Op != api.Fetch || act.Now != act.Old+1):
		return "answered, and gave nothing"
	case last.Call != take && last.Call != give:
		return "no call is answered"
	case uint64(last.Value) != act.Now:
		return "another answer"
	}
	return ""
}

// last tells what is wrong where nobody goes on any more: who isn't at its end sleeps, as none may.
func (x shared) last(c *core.Core) string {
	may := x.may
	for _, a := range trial.Answers(c, x.threads) {
		if a.Call == take {
			may--
		} else {
			may++
		}
	}
	if got := c.Cells()[0]; got != uint64(may) {
		return fmt.Sprintf("%d may, not %d", got, may)
	}
	for _, w := range trial.Waits(c, x.threads) {
		if w.Cell != 0 || w.Call != take || may > 0 {
			return fmt.Sprintf("%v isn't at its end, and %d may", w, may)
		}
	}
	return ""
}

func TestNeverMoreHaveTakenThanMayInAnyOrder(t *testing.T) {
	for _, x := range []shared{
		{0, [][]api.Call{ask(take), ask(give)}},
		{1, [][]api.Call{ask(take, give), ask(take, give)}},
		{1, [][]api.Call{ask(take, give, take), ask(take, give, take, give)}},
		{1, [][]api.Call{ask(take, give), ask(take, give), ask(take, give)}},
		{2, [][]api.Call{ask(take, give), ask(take, give), ask(take, give)}},
		{0, [][]api.Call{ask(take), ask(take), ask(give, give)}},
		{0, [][]api.Call{ask(take), ask(take, give), ask(give)}},
		{0, [][]api.Call{ask(take, take), ask(give), ask(give)}},
		{3, [][]api.Call{ask(take), ask(take), ask(take)}},
		// Of these some sleep in the end.
		{0, [][]api.Call{ask(take, give), ask(take, give)}},
		{2, [][]api.Call{ask(take), ask(take), ask(take)}},
		{1, [][]api.Call{ask(take, take, give), ask(take, take, give)}},
		{0, [][]api.Call{ask(take), ask(take, give), ask(take, give)}},
	} {
		if n, wrong := x.machine(t).All(); wrong != "" {
			t.Errorf("%v: %s, in the last one of %d states", x, wrong, n)
		}
	}
}

func TestNeverMoreHaveTakenThanMayOfMany(t *testing.T) {
	random := rand.New(rand.NewSource(1))
	for range 200 {
		// Each gives what it took; or anybody asks for anything.
		x := shared{random.Intn(5), trial.Lists(random.Intn, ask(take, give))}
		if random.Intn(2) == 0 {
			x.threads = trial.Lists(random.Intn, ask(take), ask(give))
		}
		if wrong := x.machine(t).Some(random.Intn); wrong != "" {
			t.Errorf("%v: %s", x, wrong)
		}
	}
}

func TestGiveWakesWhoFellAsleepFirst(t *testing.T) {
	c, err := kind.New([][]api.Call{ask(take), ask(take), ask(take), ask(give, give)}, 0)
	if err != nil {
		t.Fatal(err)
	}
	for _, k := range []int{1, 2, 0} {
		c.Run([]int{k, k, k})
	}
	awake := func() string {
		s := ""
		for k := range 3 {
			if c.Can(k) {
				s += fmt.Sprint(k)
			}
		}
		return s
	}
	// Each Give wakes one, at its third step.
	for steps, want := range []string{"", "", "", "1", "1", "1", "1", "12", "12"} {
		if got := awake(); got != want {
			t.Errorf("behind %d steps: %q are awake, not %q", steps, got, want)
		}
		c.Run([]int{3})
	}
}

func TestWhoIsFasterThanOneWhoIsWokenTakes(t *testing.T) {
	c, err := kind.New([][]api.Call{ask(take), ask(take, give), ask(give)}, 0)
	if err != nil {
		t.Fatal(err)
	}
	// Thread 0 sleeps, 2 gives, and 1 takes: then 0 sleeps again, till 1 gives.
	c.Run([]int{0, 0, 0, 2, 2, 2, 2, 1, 1, 1, 1, 1, 1, 1, 0, 0, 0, 0})
	if at, cell, err := c.At(0); at != 7 || cell != 0 || err != nil {
		t.Errorf("thread 0 is at %d, sleeps at %d: %v", at, cell, err)
	}
	c.Run(append(slices.Repeat([]int{1, 0}, 20), 2))
	want := "[{7 3 2 1} {14 3 1 0} {23 3 1 1} {31 3 0 0}]"
	if got := fmt.Sprint(c.Events()); got != want {
		t.Errorf("got %s, want %s", got, want)
	}
	if all, _ := c.Ends(); !all || c.Cells()[0] != 0 {
		t.Errorf("all are at their ends: %t; %v", all, c.Cells())
	}
}
