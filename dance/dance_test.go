package dance_test

import (
	"fmt"
	"math"
	"math/rand"
	"slices"
	"strings"
	"testing"

	"quadrille/api"
	"quadrille/central"
	"quadrille/combine"
	"quadrille/core"
	"quadrille/dance"
	"quadrille/fair"
	"quadrille/judge"
	"quadrille/mcs"
	"quadrille/plain"
	"quadrille/spread"
	"quadrille/static"
	"quadrille/tourney"
	"quadrille/trial"
)

// kinds are all kinds as the document has them: their names, and what their packages make.
var kinds = []struct {
	kind  int
	name  string
	cells func(n int) (int, error)
	code  func(n, id, rounds int) ([]api.Ins, error)
}{
	{1, "central", central.Cells, central.Code},
	{2, "combine", combine.Cells, combine.Code},
	{3, "static", static.Cells, static.Code},
	{4, "spread", spread.Cells, spread.Code},
	{5, "tourney", tourney.Cells, tourney.Code},
	{6, "mcs", mcs.Cells, mcs.Code},
}

// noKinds are none.
var noKinds = []int{math.MinInt, -7, -1, 0, 7, 8, math.MaxInt}

// edges are numbers within the bounds of parties and rounds, at them, and beyond them.
var edges = []int{math.MinInt, -1, 0, 1, 2, 3, 7, 15, 16, 17, 20, 21, math.MaxInt}

// tells checks which Errno an error is, and that it has no place.
func tells(t *testing.T, name string, err error, want api.Errno) {
	t.Helper()
	if got, place := plain.Place(err); got != want || place != -1 {
		t.Errorf("%s: got error %d at %d, want %d without a place", name, got, place, want)
	}
}

// shows checks what something looks like.
func shows(t *testing.T, name string, got any, want string) {
	t.Helper()
	if s := fmt.Sprint(got); s != want {
		t.Errorf("%s: got %.300s, want %.300s", name, s, want)
	}
}

// machine is one in which n go through a barrier.
func machine(t *testing.T, k, n, rounds int) *core.Core {
	t.Helper()
	c, err := dance.New(k, n, rounds)
	if err != nil || c == nil {
		t.Fatalf("new %d %d %d: %v", k, n, rounds, err)
	}
	return c
}

func TestNamesAreThoseOfTheKinds(t *testing.T) {
	for _, x := range kinds {
		name, err := dance.Name(x.kind)
		shows(t, "name", name, x.name)
		tells(t, "name", err, api.OK)
		k, err := dance.Kind(x.name)
		shows(t, x.name, k, fmt.Sprint(x.kind))
		tells(t, x.name, err, api.OK)
	}
}

func TestNoKindHasAName(t *testing.T) {
	for _, k := range noKinds {
		name, err := dance.Name(k)
		shows(t, "name", name, "")
		tells(t, fmt.Sprint("name ", k), err, api.ErrArg)
	}
}

func TestNoOtherTextIsAName(t *testing.T) {
	l := []string{"", " ", "x", "0", "1", "\x00", "kinds", "central,combine", strings.Repeat("mcs", 1000)}
	for _, x := range kinds {
		l = append(l, x.name+" ", " "+x.name, x.name+"\n", x.name+"\x00", x.name+"s", x.name[1:], x.name[:len(x.name)-1], strings.ToUpper(x.name), strings.ToUpper(x.name[:1])+x.name[1:], x.name+x.name)
	}
	for _, s := range l {
		k, err := dance.Kind(s)
		shows(t, fmt.Sprintf("%.40q", s), k, "0")
		tells(t, fmt.Sprintf("%.40q", s), err, api.ErrName)
	}
}

func TestCellsAreTheKinds(t *testing.T) {
	for _, x := range kinds {
		for _, n := range edges {
			want, wrong := x.cells(n)
			got, err := dance.Cells(x.kind, n)
			shows(t, fmt.Sprint(x.name, " ", n), got, fmt.Sprint(want))
			tells(t, fmt.Sprint(x.name, " ", n), err, api.Tell(wrong))
		}
	}
}

func TestCodeIsTheKinds(t *testing.T) {
	for _, x := range kinds {
		for _, n := range edges {
			for _, id := range edges {
				for _, rounds := range edges {
					want, wrong := x.code(n, id, rounds)
					got, err := dance.Code(x.kind, n, id, rounds)
					name := fmt.Sprint(x.name, " ", n, id, rounds)
					tells(t, name, err, api.Tell(wrong))
					if !slices.Equal(got, want) {
						t.Errorf("%s: got %v, want %v", name, got, want)
					}
				}
			}
		}
	}
}

func TestFaceOfEachKind(t *testing.T) {
	for k := api.Central; k < api.Kinds; k++ {
		kind := trial.Kind{
			Cells: func(n int) (int, error) { return dance.Cells(k, n) },
			Code:  func(n, id, rounds int) ([]api.Ins, error) { return dance.Code(k, n, id, rounds) },
		}
		if wrong := kind.Face(); wrong != "" {
			t.Errorf("%d: %s", k, wrong)
		}
	}
}

func TestNoKindIsToldAheadOfAllElse(t *testing.T) {
	for _, k := range noKinds {
		for _, n := range edges {
			for _, rounds := range edges {
				name := fmt.Sprint("kind ", k, n, rounds)
				cells, err := dance.Cells(k, n)
				shows(t, name, cells, "0")
				tells(t, name, err, api.ErrArg)
				l, err := dance.Code(k, n, n-1, rounds)
				shows(t, name, len(l), "0")
				tells(t, name, err, api.ErrArg)
				c, err := dance.New(k, n, rounds)
				shows(t, name, c == nil, "true")
				tells(t, name, err, api.ErrArg)
			}
		}
	}
}

func TestNewIsWithinTheBoundsOfBoth(t *testing.T) {
	for _, x := range kinds {
		for _, n := range edges {
			for _, rounds := range edges {
				want := api.OK
				if n < 1 || n > 16 || rounds < 0 || rounds > 20 {
					want = api.ErrRange
				}
				c, err := dance.New(x.kind, n, rounds)
				name := fmt.Sprint(x.name, " ", n, rounds)
				tells(t, name, err, want)
				shows(t, name, c == nil, fmt.Sprint(want != api.OK))
			}
		}
	}
}

// both are a machine, and the one that the document says it is to be.
func both(t *testing.T, k, n, rounds int) (*core.Core, *core.Core) {
	t.Helper()
	var programs [][]api.Ins
	for id := range n {
		p, err := dance.Code(k, n, id, rounds)
		tells(t, "code", err, api.OK)
		programs = append(programs, p)
	}
	cells, err := dance.Cells(k, n)
	tells(t, "cells", err, api.OK)
	c, err := core.New(programs, make([]uint64, cells))
	if err != nil {
		t.Fatal(err)
	}
	return machine(t, k, n, rounds), c
}

// looks is what a machine shows.
func looks(c *core.Core) string { return fmt.Sprint(trial.Looks(c)) }

func TestNewIsTheMachineOfAllPrograms(t *testing.T) {
	random := rand.New(rand.NewSource(1))
	for _, x := range kinds {
		for n := 1; n <= api.MaxThreads; n++ {
			for _, rounds := range []int{0, 1, 3} {
				name := fmt.Sprint(x.name, " ", n, rounds)
				got, want := both(t, x.kind, n, rounds)
				shows(t, name+" at first", looks(got), looks(want))
				for range 40 * n {
					k := random.Intn(n)
					if random.Intn(5) == 0 {
						tells(t, name+": poke", got.Poke(k), api.Tell(want.Poke(k)))
					}
					tells(t, name+": step", got.Step(k), api.Tell(want.Step(k)))
				}
				shows(t, name, looks(got), looks(want))
			}
		}
	}
}

func TestEachMachineIsAnew(t *testing.T) {
	one, other := machine(t, api.Spread, 3, 2), machine(t, api.Spread, 3, 2)
	was := looks(other)
	fair.Finish(one)
	shows(t, "the other one", looks(other), was)
	shows(t, "a third one", looks(machine(t, api.Spread, 3, 2)), was)
}

func TestStaticOfTwoIsDoneInThirtySixSteps(t *testing.T) {
	c := machine(t, api.Static, 2, 1)
	shows(t, "finish", fair.Finish(c), "36")
	all, stuck := c.Ends()
	shows(t, "ends", fmt.Sprint(all, stuck, c.Steps(), c.Cells()), "true false 36 [0 1 1]")
}

// through goes on in turns, and checks that all went through all rounds, and nobody ahead of one who comes.
func through(t *testing.T, name string, c *core.Core, rounds int) {
	t.Helper()
	fair.Finish(c)
	all, stuck := c.Ends()
	shows(t, name+": ends", fmt.Sprint(all, stuck), "true false")
	shows(t, name+": words", len(c.Events()), fmt.Sprint(2*c.Threads()*rounds))
	gone, came, err := judge.Rounds(c.Events(), c.Threads())
	tells(t, name, err, api.OK)
	shows(t, name, fmt.Sprint(gone, came), fmt.Sprint(rounds, rounds))
}

func TestAllKindsDoOneThing(t *testing.T) {
	random := rand.New(rand.NewSource(2))
	for _, x := range kinds {
		for n := 1; n <= api.MaxThreads; n++ {
			for _, rounds := range []int{0, 1, 4, api.MaxRounds} {
				name := fmt.Sprint(x.name, " ", n, rounds)
				through(t, name, machine(t, x.kind, n, rounds), rounds)
				c := machine(t, x.kind, n, rounds)
				for range 60 * n {
					k := random.Intn(n)
					c.Run(slices.Repeat([]int{k}, 1+random.Intn(8)))
					if random.Intn(4) == 0 {
						_ = c.Poke(random.Intn(n))
					}
				}
				tells(t, name+": half-way", judge.Check(c.Events(), n), api.OK)
				through(t, name+" in some order", c, rounds)
			}
		}
	}
}
