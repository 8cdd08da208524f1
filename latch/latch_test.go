package latch_test

import (
	"fmt"
	"math/rand"
	"slices"
	"testing"

	"quadrille/api"
	"quadrille/core"
	"quadrille/latch"
	"quadrille/trial"
)

// kind is how these programs are made, and how the document writes their calls.
var kind = trial.Calls{Code: latch.Code, Text: trial.Texts(map[int]string{
	api.Down:  "load 1 0; same 1 0 p+9; plus 2 1 -1; swap 3 0 1 2; same 3 0 p; copy 1 2; same 2 0 p+8; jump p+9; wake 0 16 -1; say 3 1",
	api.Await: "load 1 0; same 1 0 p+4; wait 0 1; jump p; say 3 1",
})}

// down and await are calls.
var down, await = api.Call{What: api.Down}, api.Call{What: api.Await}

// ask is a list of calls.
func ask(l ...api.Call) []api.Call { return l }

func TestFace(t *testing.T) {
	if wrong := kind.Face(); wrong != "" {
		t.Error(wrong)
	}
}

func TestCodeIsWhole(t *testing.T) {
	for text, calls := range map[string][]api.Call{
		"halt": nil,
		"load 1 0; same 1 0 4; wait 0 1; jump 0; say 3 1; halt": ask(await),
		"load 1 0; same 1 0 4; wait 0 1; jump 0; say 3 1; load 1 0; same 1 0 14; plus 2 1 -1; swap 3 0 1 2; same 3 0 5; copy 1 2; same 2 0 13; jump 14; wake 0 16 -1; say 3 1; halt": ask(await, down),
	} {
		if wrong := kind.Whole(text, calls...); wrong != "" {
			t.Errorf("%v: %s", calls, wrong)
		}
	}
}

func TestCodeIsOfOneCell(t *testing.T) {
	if wrong := kind.Room(101, 1, slices.Repeat(ask(down, await, down), 4)...); wrong != "" {
		t.Error(wrong)
	}
}

// latched are threads that ask for calls, on a count.
type latched struct {
	count   int
	threads [][]api.Call
}

// machine is what is tried of them.
func (x latched) machine(t *testing.T) trial.Machine {
	t.Helper()
	p, err := kind.Programs(x.threads)
	if err != nil {
		t.Fatalf("%v: %v", x, err)
	}
	return trial.Machine{Programs: p, Cells: []uint64{uint64(x.count)}, Now: x.now, Last: x.last}
}

// now tells what is wrong with the last step: nobody who awaits is answered ahead of nought, and a Down is answered what the count was when it was done.
func (x latched) now(c *core.Core) string {
	last, ok := trial.LastAnswer(c, x.threads)
	if !ok {
		return ""
	}
	act := trial.LastAct(c, last.Thread)
	switch {
	case last.Call == await && (last.Value != 0 || c.Cells()[0] != 0):
		return "answered ahead of nought"
	case last.Call == down && act.Op == api.Load && act.Old != 0:
		return "answered, and took nothing"
	case last.Call == down && uint64(last.Value) != act.Now:
		return "another answer"
	case last.Call != down && last.Call != await:
		return "no call is answered"
	}
	return ""
}

// end is what the count is at last, and how many calls of each are answered then: as the count never goes up, the order is no matter.
func (x latched) end() (count int, answered []int) {
	count, answered = x.count, make([]int, len(x.threads))
	for again := true; again; {
		again = false
		for k, l := range x.threads {
			if answered[k] == len(l) || l[answered[k]] == await && count > 0 {
				continue
			}
			if l[answered[k]] == down {
				count = max(0, count-1)
			}
			answered[k]++
			again = true
		}
	}
	return count, answered
}

// last tells what is wrong where nobody goes on any more.
func (x latched) last(c *core.Core) string {
	count, want := x.end()
	if got := c.Cells()[0]; got != uint64(count) {
		return fmt.Sprintf("the count is %d, not %d", got, count)
	}
	got, downs := make([]int, len(x.threads)), []int(nil)
	for _, a := range trial.Answers(c, x.threads) {
		got[a.Thread]++
		if a.Call == down {
			downs = append(downs, a.Value)
		}
	}
	if !slices.Equal(got, want) {
		return fmt.Sprintf("%v are answered, not %v", got, want)
	}
	// Each Down was told another count, but for those that found none left.
	slices.Sort(downs)
	slices.Reverse(downs)
	for k, value := range downs {
		if value != max(0, x.count-1-k) {
			return fmt.Sprintf("downs are answered %v", downs)
		}
	}
	for _, w := range trial.Waits(c, x.threads) {
		if w.Cell != 0 || w.Call == (api.Call{}) {
			return fmt.Sprintf("%v isn't at its end, nor sleeps", w)
		}
	}
	return ""
}

func TestNobodyIsAnsweredAheadOfNoughtInAnyOrder(t *testing.T) {
	for _, x := range []latched{
		{0, [][]api.Call{ask(await), ask(down)}},
		{1, [][]api.Call{ask(await), ask(down)}},
		{1, [][]api.Call{ask(await), ask(await), ask(down)}},
		{1, [][]api.Call{ask(await), ask(down), ask(down)}},
		{2, [][]api.Call{ask(await), ask(down), ask(down)}},
		{2, [][]api.Call{ask(await, await), ask(down, down)}},
		{2, [][]api.Call{ask(down, await), ask(down, await)}},
		{2, [][]api.Call{ask(down, await, down), ask(down, down, down)}},
		// These come never to nought.
		{1, [][]api.Call{ask(await), ask(await)}},
		{2, [][]api.Call{ask(await), ask(await), ask(down)}},
		{2, [][]api.Call{ask(await, down), ask(down, await)}},
	} {
		if n, wrong := x.machine(t).All(); wrong != "" {
			t.Errorf("%v: %s, in the last one of %d states", x, wrong, n)
		}
	}
}

func TestNobodyIsAnsweredAheadOfNoughtOfMany(t *testing.T) {
	random := rand.New(rand.NewSource(1))
	for range 200 {
		x := latched{threads: make([][]api.Call, 1+random.Intn(api.MaxThreads))}
		downs := 0
		for k := range x.threads {
			for range random.Intn(api.MaxCalls + 1) {
				c := ask(await, down, down)[random.Intn(3)]
				x.threads[k] = append(x.threads[k], c)
				if c == down {
					downs++
				}
			}
		}
		x.count = random.Intn(downs + 2)
		if wrong := x.machine(t).Some(random.Intn); wrong != "" {
			t.Errorf("%v: %s", x, wrong)
		}
	}
}

func TestWhoLetsItBeNoughtWakesAll(t *testing.T) {
	threads := append(slices.Repeat([][]api.Call{ask(await)}, api.MaxThreads-1), ask(down, down))
	c, err := kind.New(threads, 2)
	if err != nil {
		t.Fatal(err)
	}
	for k := range api.MaxThreads - 1 {
		c.Run([]int{k, k, k})
	}
	waits := func(from, to int) {
		t.Helper()
		for c.Steps() < to {
			if c.Step(15) != nil {
				t.Fatalf("step %d", c.Steps())
			}
			if awake := c.Can(0) || c.Can(14); awake {
				t.Fatalf("awake at step %d", c.Steps())
			}
		}
	}
	// All sleep at step 45; the first Down has nine steps, and the second one wakes at its eighth.
	waits(45, 45+9+7)
	c.Run([]int{15})
	for k := range api.MaxThreads - 1 {
		if !c.Can(k) {
			t.Errorf("thread %d sleeps", k)
		}
	}
}
