package trial_test

import (
	"fmt"
	"math/rand"
	"strings"
	"testing"

	"quadrille/api"
	"quadrille/code"
	"quadrille/core"
	"quadrille/trial"
)

// programs are those of texts.
func programs(t *testing.T, texts ...string) [][]api.Ins {
	t.Helper()
	var l [][]api.Ins
	for _, s := range texts {
		p, err := code.Parse(strings.ReplaceAll(s, "; ", "\n") + "\n")
		if err != nil {
			t.Fatalf("%q: %v", s, err)
		}
		l = append(l, p)
	}
	return l
}

// right tells that nothing is wrong.
func right(c *core.Core) string { return "" }

// ended tells whether all are at their ends.
func ended(c *core.Core) string {
	if all, _ := c.Ends(); all {
		return ""
	}
	return stuck
}

// told checks what trials of all orders tell, and those of some.
func told(t *testing.T, name string, m trial.Machine, want string) {
	t.Helper()
	if _, got := m.All(); got != want {
		t.Errorf("%s: all: got %q, want %q", name, got, want)
	}
	random, got := rand.New(rand.NewSource(1)), ""
	for k := 0; k < 2000 && got == ""; k++ {
		got = m.Some(random.Intn)
	}
	if got != want {
		t.Errorf("%s: some: got %q, want %q", name, got, want)
	}
}

func TestLastIsAskedWhereNobodyGoesOn(t *testing.T) {
	wait, wake := "load 1 0; same 1 1 4; wait 0 1; jump 0; halt", "let 1 1; store 0 1 -1; wake 0 1 -1; halt"
	told(t, "all go on", trial.Machine{Programs: programs(t, wait, wake), Cells: []uint64{0}, Now: right, Last: ended}, "")
	told(t, "nobody wakes", trial.Machine{Programs: programs(t, wait, "halt"), Cells: []uint64{0}, Now: right, Last: ended}, stuck)
	told(t, "cells as told", trial.Machine{Programs: programs(t, wait, "halt"), Cells: []uint64{1}, Now: right, Last: ended}, "")
	// Only who looks at the cell ahead of the store, and sleeps ahead of the wake, goes on.
	blind := "load 1 0; wait 1 0; halt"
	told(t, "a wake that is missed", trial.Machine{Programs: programs(t, blind, "wake 1 1 -1; halt"), Cells: []uint64{0, 0}, Now: right, Last: ended}, stuck)
}

func TestNowIsAskedBehindEachMove(t *testing.T) {
	between := func(c *core.Core) string {
		if c.Cells()[0] == 1 && c.Cells()[1] == 1 {
			return "both"
		}
		return ""
	}
	change := func(cell string) string {
		return "let 1 1; store " + cell + " 1 -1; let 1 0; store " + cell + " 1 -1; halt"
	}
	m := trial.Machine{Programs: programs(t, change("0"), change("1")), Cells: []uint64{0, 0}, Now: between, Last: ended}
	told(t, "for a while", m, "both")
	m.Programs = programs(t, change("0"), change("0"))
	told(t, "never", m, "")
}

func TestNowIsAskedOnEachWayToAState(t *testing.T) {
	// Whoever says it first, the state is the same then.
	order := func(first int) func(c *core.Core) string {
		return func(c *core.Core) string {
			if l := c.Events(); len(l) == 2 && l[0].Thread == first {
				return fmt.Sprint(first, " is first")
			}
			return ""
		}
	}
	m := trial.Machine{Programs: programs(t, "say 9 0; halt", "say 9 0; halt"), Last: ended}
	for first := range 2 {
		m.Now = order(first)
		told(t, "order", m, fmt.Sprint(first, " is first"))
	}
}

func TestWhoIsWokenForNothingIsTried(t *testing.T) {
	m := trial.Machine{Programs: programs(t, "wait 0 0; say 9 0; halt"), Cells: []uint64{0}, Last: right, Now: func(c *core.Core) string {
		if len(c.Events()) > 0 {
			return "woken"
		}
		return ""
	}}
	told(t, "poked", m, "woken")
}

func TestWhatIsNoMachineIsTold(t *testing.T) {
	m := trial.Machine{Programs: programs(t, "load 1 1; halt"), Cells: []uint64{0}, Now: right, Last: ended}
	told(t, "no cell", m, api.ErrRange.Error())
}
