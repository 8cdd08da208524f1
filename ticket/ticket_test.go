package ticket_test

import (
	"fmt"
	"math/rand"
	"slices"
	"testing"

	"quadrille/api"
	"quadrille/core"
	"quadrille/ticket"
	"quadrille/trial"
)

// kind is how these programs are made, and how the document writes their calls.
var kind = trial.Calls{Code: ticket.Code, Text: trial.Texts(map[int]string{
	api.Lock:   "fetch 1 0 1; load 2 1; equal 2 1 p+5; wait 1 2; jump p+1; say 3 1",
	api.Unlock: "fetch 1 1 1; wake 1 16 -1; say 3 1",
})}

// lock and unlock are calls.
var lock, unlock = api.Call{What: api.Lock}, api.Call{What: api.Unlock}

// ask is a list of calls.
func ask(l ...api.Call) []api.Call { return l }

func TestFace(t *testing.T) {
	if wrong := kind.Face(); wrong != "" {
		t.Error(wrong)
	}
}

func TestCodeIsWhole(t *testing.T) {
	for text, calls := range map[string][]api.Call{
		"halt": nil,
		"fetch 1 0 1; load 2 1; equal 2 1 5; wait 1 2; jump 1; say 3 1; halt":                                     ask(lock),
		"fetch 1 1 1; wake 1 16 -1; say 3 1; fetch 1 0 1; load 2 1; equal 2 1 8; wait 1 2; jump 4; say 3 1; halt": ask(unlock, lock),
	} {
		if wrong := kind.Whole(text, calls...); wrong != "" {
			t.Errorf("%v: %s", calls, wrong)
		}
	}
}

func TestCodeIsOfTwoCells(t *testing.T) {
	if wrong := kind.Room(55, 2, slices.Repeat(ask(lock, unlock), 6)...); wrong != "" {
		t.Error(wrong)
	}
}

// queued are threads that ask for calls, where at first so many tickets are taken, and it is that one's turn.
type queued struct {
	first   uint64
	threads [][]api.Call
}

// machine is what is tried of them.
func (x queued) machine(t *testing.T) trial.Machine {
	t.Helper()
	p, err := kind.Programs(x.threads)
	if err != nil {
		t.Fatalf("%v: %v", x, err)
	}
	return trial.Machine{Programs: p, Cells: []uint64{x.first, x.first}, Now: x.now, Last: x.last}
}

// tickets are whose each ticket is, in the order in which they came.
func (x queued) tickets(c *core.Core) []int {
	var l []int
	for _, a := range c.Acts() {
		if a.Op == api.Fetch && a.Cell == 0 {
			l = append(l, a.Thread)
		}
	}
	return l
}

// now tells what is wrong wherever it stands: who locks has its turn then, which no one else has.
func (x queued) now(c *core.Core) string {
	last, ok := trial.LastAnswer(c, x.threads)
	if !ok {
		return ""
	}
	act := trial.LastAct(c, last.Thread)
	switch {
	case act.Cell != 1 || act.Old != uint64(last.Value):
		return "another answer"
	case last.Call == lock && latest(x.tickets(c), last.Thread) != int(act.Old-x.first):
		return "it isn't its turn"
	case last.Call == unlock && act.Now != act.Old+1:
		return "answered, and didn't unlock"
	case last.Call != lock && last.Call != unlock:
		return "no call is answered"
	}
	return x.inOrder(c)
}

// inOrder tells what is wrong with who locked, if nobody else unlocks: one at a time has, in the order in which they came.
func (x queued) inOrder(c *core.Core) string {
	if !x.pairs() {
		return ""
	}
	var came []int
	held := 0
	for _, a := range trial.Answers(c, x.threads) {
		if a.Call == lock {
			came = append(came, a.Thread)
			held++
		}
	}
	for _, a := range c.Acts() {
		if a.Op == api.Fetch && a.Cell == 1 {
			held--
		}
	}
	if held < 0 || held > 1 {
		return fmt.Sprintf("%d have locked", held)
	}
	if tickets := x.tickets(c); len(came) > len(tickets) || !slices.Equal(came, tickets[:len(came)]) {
		return fmt.Sprintf("%v came, and %v locked", tickets, came)
	}
	return ""
}

// pairs is whether each unlocks just what it locked itself.
func (x queued) pairs() bool {
	for _, l := range x.threads {
		for i, c := range l {
			if c != ask(lock, unlock)[i%2] {
				return false
			}
		}
	}
	return true
}

// last tells what is wrong where nobody goes on any more: who isn't at its end sleeps, as it isn't its turn.
func (x queued) last(c *core.Core) string {
	unlocked := x.first
	for _, a := range trial.Answers(c, x.threads) {
		if a.Call == unlock {
			unlocked++
		}
	}
	tickets, cells := x.tickets(c), c.Cells()
	if cells[0] != x.first+uint64(len(tickets)) || cells[1] != unlocked {
		return fmt.Sprintf("the cells are %v", cells)
	}
	for _, w := range trial.Waits(c, x.threads) {
		if w.Cell != 1 || w.Call != lock || latest(tickets, w.Thread) == int(cells[1]-x.first) {
			return fmt.Sprintf("%v isn't at its end, and the cells are %v", w, cells)
		}
	}
	return ""
}

// latest is where a number is last in a list; -1: it isn't.
func latest(l []int, x int) int {
	for i, y := range slices.Backward(l) {
		if y == x {
			return i
		}
	}
	return -1
}

func TestWhoCameFirstIsFirstInAnyOrder(t *testing.T) {
	both := ask(lock, unlock)
	for _, x := range []queued{
		{0, [][]api.Call{both}},
		{0, [][]api.Call{both, both}},
		{7, [][]api.Call{both, slices.Repeat(both, 2)}},
		{0, [][]api.Call{slices.Repeat(both, 2), slices.Repeat(both, 3)}},
		{0, [][]api.Call{both, both, both}},
		// Who unlocks isn't always who locked.
		{0, [][]api.Call{ask(lock), ask(lock), ask(unlock)}},
		{0, [][]api.Call{ask(lock, lock), ask(unlock)}},
		// Of these some sleep in the end.
		{0, [][]api.Call{ask(lock, lock)}},
		{0, [][]api.Call{ask(lock), ask(lock)}},
		{0, [][]api.Call{both, both, ask(lock)}},
		// A turn that nobody has yet may be over when somebody comes.
		{0, [][]api.Call{ask(unlock), both}},
		{0, [][]api.Call{ask(unlock, unlock), both, ask(lock)}},
	} {
		if n, wrong := x.machine(t).All(); wrong != "" {
			t.Errorf("%v: %s, in the last one of %d states", x, wrong, n)
		}
	}
}

func TestWhoCameFirstIsFirstOfMany(t *testing.T) {
	random := rand.New(rand.NewSource(1))
	for range 200 {
		// Each unlocks what it locked; or anybody asks for anything.
		x := queued{uint64(random.Intn(3)), trial.Lists(random.Intn, ask(lock, unlock))}
		if random.Intn(2) == 0 {
			x.threads = trial.Lists(random.Intn, ask(lock), ask(unlock))
		}
		if wrong := x.machine(t).Some(random.Intn); wrong != "" {
			t.Errorf("%v: %s", x, wrong)
		}
	}
}

func TestWhoCameFirstIsFirstWhoeverIsFaster(t *testing.T) {
	both := ask(lock, unlock)
	c, err := kind.New([][]api.Call{both, both, both}, 0, 0)
	if err != nil {
		t.Fatal(err)
	}
	// 2 locks; 0 comes ahead of 1, but 1 falls asleep first, and is the first one that goes on when both are woken.
	c.Run([]int{2, 2, 2, 2, 0, 1, 1, 1, 1, 0, 0, 0, 2, 2})
	c.Run([]int{1, 1, 1, 1, 0, 0, 0, 0})
	if _, cell, err := c.At(1); cell != 1 || err != nil {
		t.Errorf("thread 1 doesn't sleep at cell 1: %d, %v", cell, err)
	}
	c.Run([]int{0, 0, 1, 1, 1, 1, 1, 1, 1, 1, 0, 0, 2, 2})
	if got, want := fmt.Sprint(c.Events()), "[{4 3 2 0} {22 3 0 1} {28 3 1 2} {31 3 1 2} {33 3 0 1} {35 3 2 0}]"; got != want {
		t.Errorf("got %s, want %s", got, want)
	}
	if all, _ := c.Ends(); !all || fmt.Sprint(c.Cells()) != "[3 3]" {
		t.Errorf("all are at their ends: %t; %v", all, c.Cells())
	}
}
