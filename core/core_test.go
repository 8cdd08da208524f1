package core_test

import (
	"fmt"
	"math"
	"math/rand"
	"slices"
	"strings"
	"testing"

	"quadrille/api"
	"quadrille/code"
	"quadrille/core"
	"quadrille/plain"
)

// tells checks which Errno an error is, and that it has no place.
func tells(t *testing.T, name string, err error, want api.Errno) {
	t.Helper()
	if got, place := plain.Place(err); got != want || place != -1 {
		t.Errorf("%s: got error %d at %d, want %d without a place", name, got, place, want)
	}
}

// shows checks what something looks like.
func shows(t *testing.T, name string, got any, want string) {
	t.Helper()
	if s := fmt.Sprint(got); s != want {
		t.Errorf("%s: got %s, want %s", name, s, want)
	}
}

// program is the program of lines that are told in one, by semicolons.
func program(t *testing.T, s string) []api.Ins {
	t.Helper()
	p, err := code.Parse(strings.ReplaceAll(s, "; ", "\n") + "\n")
	if err != nil {
		t.Fatalf("%q: %v", s, err)
	}
	return p
}

// machine is one of programs on cells.
func machine(t *testing.T, cells []uint64, programs ...string) *core.Core {
	t.Helper()
	var l [][]api.Ins
	for _, s := range programs {
		l = append(l, program(t, s))
	}
	c, err := core.New(l, cells)
	tells(t, "new", err, api.OK)
	if c == nil {
		t.Fatal("new: no machine")
	}
	return c
}

// same are n times the same pick.
func same(n, pick int) []int { return slices.Repeat([]int{pick}, n) }

func TestNewHasAThreadForEachProgram(t *testing.T) {
	for _, n := range []int{0, 1, 2, api.MaxThreads} {
		c := machine(t, []uint64{4, math.MaxUint64}, slices.Repeat([]string{"say 1 0; halt"}, n)...)
		shows(t, "first", fmt.Sprint(c.Threads(), c.Steps(), c.Cells(), c.Acts(), c.Events()), fmt.Sprint(n, " ", 0, " [4 18446744073709551615] [] []"))
		for thread := range n {
			at, cell, err := c.At(thread)
			shows(t, "at", fmt.Sprint(at, cell, c.Can(thread)), "0 -1 true")
			tells(t, "at", err, api.OK)
			tells(t, "poke", c.Poke(thread), api.ErrState)
		}
		for _, none := range []int{math.MinInt, -1, n, n + 1, math.MaxInt} {
			at, cell, err := c.At(none)
			shows(t, "none", fmt.Sprint(at, cell, c.Can(none)), "0 0 false")
			tells(t, "at none", err, api.ErrRange)
			tells(t, "step none", c.Step(none), api.ErrRange)
			tells(t, "poke none", c.Poke(none), api.ErrRange)
		}
	}
}

func TestNewHasRegistersAtNought(t *testing.T) {
	s := ""
	for r := range api.MaxRegs {
		s += fmt.Sprintf("say %d %d; ", r, r)
	}
	c := machine(t, nil, s+"halt", s+"halt")
	c.Run(append(same(9, 1), same(9, 0)...))
	if len(c.Events()) != 16 {
		t.Fatalf("got %d events", len(c.Events()))
	}
	for i, e := range c.Events() {
		want := api.Event{When: i + 1, What: i % 8, Thread: 1 - i/8}
		if i >= 8 {
			want.When++ // thread 1's Halt lies between
		}
		shows(t, "said", e, fmt.Sprint(want))
	}
}

func TestNewWithoutThreadsOrCells(t *testing.T) {
	c, err := core.New(nil, nil)
	tells(t, "nothing", err, api.OK)
	all, stuck := c.Ends()
	shows(t, "nothing", fmt.Sprint(all, stuck, c.Threads(), c.Steps(), c.Run([]int{0, -1, 1}), c.Cells(), c.Acts(), c.Events()), "true false 0 0 0 [] [] []")
	c = machine(t, nil, "let 0 1; halt")
	shows(t, "no cell", c.Run(same(3, 0)), "2")
}

func TestNewErrors(t *testing.T) {
	halt, none, noOp := []api.Ins{{}}, []api.Ins{}, []api.Ins{{Op: api.Ops}}
	noHalt, long := []api.Ins{{Op: api.Let}}, make([]api.Ins, api.MaxIns+1)
	load := []api.Ins{{Op: api.Load, B: 299}, {}}
	many := func(n int, p []api.Ins) [][]api.Ins { return slices.Repeat([][]api.Ins{p}, n) }
	for _, x := range []struct {
		name  string
		p     [][]api.Ins
		cells int
		want  api.Errno
	}{
		{"most", many(16, make([]api.Ins, 600)), 300, api.OK},
		{"last cell", many(1, load), 300, api.OK},
		{"threads", many(17, halt), 0, api.ErrLimit},
		{"threads ahead of programs", many(17, noOp), 0, api.ErrLimit},
		{"cells", nil, 301, api.ErrLimit},
		{"cells ahead of programs", many(1, noOp), 301, api.ErrLimit},
		{"no instruction", many(1, none), 0, api.ErrNone},
		{"nil", many(1, nil), 0, api.ErrNone},
		{"too long", many(1, long), 0, api.ErrLimit},
		{"no Op", many(1, noOp), 0, api.ErrArg},
		{"no cell", many(1, load), 299, api.ErrRange},
		{"no end", many(1, noHalt), 0, api.ErrMissing},
		{"first one's", [][]api.Ins{halt, noHalt, noOp, none}, 0, api.ErrMissing},
		{"first one's", [][]api.Ins{halt, noOp, none, load}, 0, api.ErrArg},
		{"first one's", [][]api.Ins{load, none, long}, 0, api.ErrRange},
		{"last one's", append(many(15, halt), none), 0, api.ErrNone},
	} {
		c, err := core.New(x.p, make([]uint64, x.cells))
		tells(t, x.name, err, x.want)
		if (c == nil) != (x.want != api.OK) {
			t.Errorf("%s: a machine, or none, beside error %d", x.name, x.want)
		}
	}
}

func TestNothingHandedInIsKeptOrWritten(t *testing.T) {
	spare := []api.Ins{{Op: api.Fetch, A: 1, C: 2}, {Op: api.Say, A: 5, B: 1}, {}, {Op: api.Let, B: 7}}
	programs := [][]api.Ins{spare[:3], {{}}, {{Op: api.Ops}}}
	cells := []uint64{8, 9}
	c, err := core.New(programs[:2], cells[:1])
	tells(t, "new", err, api.OK)
	kept := fmt.Sprint(programs, spare, cells)
	shows(t, "run", c.Run([]int{0, 1}), "2")
	shows(t, "handed in", fmt.Sprint(programs, spare, cells), kept)
	cells[0], spare[1], spare[2] = 100, api.Ins{}, api.Ins{Op: api.Jump}
	programs[0], programs[1] = nil, nil
	picks := []int{0, 0, 1, 5}
	shows(t, "run on", fmt.Sprint(c.Run(picks[:2]), picks, c.Cells(), c.Events()), "2 [0 0 1 5] [10] [{3 5 0 8}]")
}

func TestWhatComesOutIsTheCallers(t *testing.T) {
	c := machine(t, []uint64{1, 2}, "fetch 0 0 1; say 3 0; fetch 0 1 1; say 4 0; halt")
	c.Run(same(2, 0))
	was := looks(c)
	acts, events, cells := c.Acts(), c.Events(), c.Cells()
	acts[0], events[0], cells[0] = api.Act{}, api.Event{}, 77
	_, _, _ = append(acts, api.Act{Cell: 9}), append(events, api.Event{What: 9}), append(cells, 9)
	shows(t, "written into", looks(c), was)
	acts, events, cells = c.Acts(), c.Events(), c.Cells()
	old := fmt.Sprint(acts, events, cells)
	c.Run(same(3, 0))
	shows(t, "ahead", fmt.Sprint(acts, events, cells), old)
	shows(t, "then", fmt.Sprint(c.Acts(), c.Events(), c.Cells()), "[{1 0 8 0 1 2} {3 0 8 1 2 3}] [{2 3 0 1} {4 4 0 2}] [2 3]")
}

func TestStepErrorsInTheirOrder(t *testing.T) {
	c := machine(t, []uint64{0}, "halt", "wait 0 0; halt", "jump 0", "let 0 1; store 0 0 0; halt")
	for _, x := range []struct {
		thread int
		want   api.Errno
	}{{0, 0}, {0, api.ErrState}, {1, 0}, {1, api.ErrNone}, {3, 0}, {3, api.ErrFalse}, {3, api.ErrState}, {4, api.ErrRange}, {-1, api.ErrRange}, {2, 0}} {
		was := c.Steps()
		tells(t, "step", c.Step(x.thread), x.want)
		done := x.want == api.OK || x.want == api.ErrFalse
		shows(t, "steps", c.Steps() == was+1, fmt.Sprint(done))
	}
	shows(t, "left", c.Run(same(api.MaxSteps, 2)), "19995")
	for thread, want := range []api.Errno{api.ErrState, api.ErrNone, api.ErrLimit, api.ErrState, api.ErrRange} {
		was := looks(c)
		tells(t, "at last", c.Step(thread), want)
		shows(t, "nothing is changed", looks(c), was)
	}
	tells(t, "poke", c.Poke(1), api.OK)
	tells(t, "woken at last", c.Step(1), api.ErrLimit)
}

func TestMaxSteps(t *testing.T) {
	c := machine(t, []uint64{0}, "fetch 0 0 1; jump 0", "say 1 0; jump 0")
	shows(t, "all but one", c.Run(slices.Repeat([]int{0, 1, 2}, 9999))+c.Run([]int{0}), "19999")
	shows(t, "last", fmt.Sprint(c.Run([]int{1, 0, 1}), c.Steps(), c.Can(0), c.Can(1)), "1 20000 true true")
	all, stuck := c.Ends()
	shows(t, "ends", fmt.Sprint(all, stuck), "false false")
	shows(t, "cells", fmt.Sprint(c.Cells(), len(c.Acts()), len(c.Events())), "[5000] 5000 5000")
	shows(t, "last act", c.Acts()[4999], "{19997 0 8 0 4999 5000}")
}

func TestMaxStepsWithAnErrFalseAsTheLast(t *testing.T) {
	c := machine(t, []uint64{0}, "jump 0", "let 0 1; store 0 0 0; halt")
	c.Run([]int{1})
	shows(t, "jumps", c.Run(same(19998, 0)), "19998")
	shows(t, "last", fmt.Sprint(c.Run([]int{1, 0}), c.Steps()), "1 20000")
	tells(t, "no more", c.Step(0), api.ErrLimit)
	tells(t, "ended", c.Step(1), api.ErrState)
}

func TestNoCellEndsTheThread(t *testing.T) {
	for _, x := range []struct {
		a     int
		more  string
		cells int
		want  api.Errno
	}{
		{0, "0", 3, 0}, {0, "2", 3, 0}, {2, "0", 3, 0}, {1, "1", 3, 0}, {0, "299", 300, 0}, {299, "0", 300, 0}, {150, "149", 300, 0},
		{0, "3", 3, api.ErrFalse}, {1, "2", 3, api.ErrFalse}, {2, "1", 3, api.ErrFalse}, {2, "-1", 3, api.ErrFalse}, {2, "-2", 3, api.ErrFalse},
		{1, "-1", 3, api.ErrFalse}, {0, "-9223372036854775808", 3, api.ErrFalse}, {2, "-9223372036854775808", 3, api.ErrFalse},
		{0, "9223372036854775807", 3, api.ErrFalse}, {2, "9223372036854775807", 3, api.ErrFalse}, {299, "1", 300, api.ErrFalse},
		{150, "150", 300, api.ErrFalse}, {0, "300", 300, api.ErrFalse}, {299, "299", 300, api.ErrFalse}, {1, "4294967295", 3, api.ErrFalse},
	} {
		for _, s := range []string{"store %d 5 4", "wake %d 0 4", "wake %d -1 4", "wake %d 3 4"} {
			s = "let 5 6; let 4 " + x.more + "; " + fmt.Sprintf(s, x.a) + "; halt"
			c := machine(t, make([]uint64, x.cells), s)
			c.Run(same(2, 0))
			tells(t, s, c.Step(0), x.want)
			_, _, err := c.At(0)
			all, _ := c.Ends()
			shows(t, s, fmt.Sprint(c.Steps(), c.Can(0), all), fmt.Sprint(3, x.want == 0, x.want != 0))
			if x.want != 0 {
				tells(t, s, err, api.ErrState)
				shows(t, s, fmt.Sprint(c.Acts(), slices.Max(c.Cells())), "[] 0")
			}
		}
	}
}

func TestCellWithAndWithoutARegister(t *testing.T) {
	c := machine(t, make([]uint64, 3), "let 0 2; let 1 5; store 1 1 -1; store 0 1 0; store 0 0 0; store 1 1 7; halt")
	c.Run(same(7, 0))
	shows(t, "acts", fmt.Sprint(c.Acts(), c.Cells()), "[{3 0 7 1 0 5} {4 0 7 2 0 5} {5 0 7 2 5 2} {6 0 7 1 5 5}] [0 5 2]")
}

func TestWakeWakesThoseWhoSleptFirst(t *testing.T) {
	for _, x := range []struct{ b, want string }{{"0", ""}, {"-1", ""}, {"-9223372036854775808", ""}, {"1", "2"}, {"2", "20"}, {"3", "203"}, {"4", "203"}, {"9223372036854775807", "203"}} {
		for _, o := range []string{"-1", "5"} {
			wait := "wait 1 0; halt"
			c := machine(t, []uint64{0, 0}, wait, "wait 0 0; halt", wait, wait, "wake 1 "+x.b+" "+o+"; halt")
			c.Run([]int{2, 1, 0, 3, 4})
			for thread, name := range []string{"0", "1", "2", "3"} {
				shows(t, "wake "+x.b+" "+o+": awake "+name, c.Can(thread), fmt.Sprint(strings.Contains(x.want, name)))
			}
			shows(t, "steps", fmt.Sprint(c.Steps(), c.Can(4), c.Acts(), c.Events()), "5 true [] []")
		}
	}
}

func TestWakeIsOfTheCellThatARegisterTellsOf(t *testing.T) {
	for _, x := range []struct{ wake, awake string }{{"wake 0 9 -1", "truefalsefalse"}, {"wake 0 9 0", "truefalsefalse"}, {"wake 0 9 5", "falsetruefalse"}, {"wake 1 9 5", "falsefalsetrue"}, {"wake 2 9 0", "falsefalsetrue"}, {"wake 2 9 5", "falsefalsefalse"}} {
		c := machine(t, make([]uint64, 3), "wait 0 0; halt", "wait 1 0; halt", "wait 2 0; halt", "let 5 1; "+x.wake+"; halt")
		shows(t, x.wake, c.Run([]int{0, 1, 2, 3, 3}), "5")
		shows(t, x.wake, fmt.Sprint(c.Can(0))+fmt.Sprint(c.Can(1))+fmt.Sprint(c.Can(2)), x.awake)
	}
}

func TestWaitSleepsIfTheCellIsTheRegister(t *testing.T) {
	c := machine(t, []uint64{1, math.MaxUint64}, "wait 0 0; wait 1 0; let 0 -1; wait 1 0; halt", "wake 0 9 -1; wake 1 1 -1; halt")
	shows(t, "not the same", c.Run(same(3, 0)), "3")
	shows(t, "the same", fmt.Sprint(c.Run(same(2, 0)), c.Can(0)), "1 false")
	at, cell, err := c.At(0)
	shows(t, "at", fmt.Sprint(at, cell), "4 1")
	tells(t, "at", err, api.OK)
	shows(t, "another cell's", fmt.Sprint(c.Run([]int{1, 0}), c.Can(0)), "1 false")
	shows(t, "its cell's", fmt.Sprint(c.Run([]int{1, 0}), c.Can(0)), "2 false")
	all, _ := c.Ends()
	shows(t, "not all", all, "false")
	shows(t, "none is an act", fmt.Sprint(c.Acts(), c.Events()), "[] []")
}

func TestWokenForNothingGoesOnBehindTheWait(t *testing.T) {
	c := machine(t, []uint64{0}, "wait 0 0; say 1 0; halt")
	tells(t, "awake", c.Poke(0), api.ErrState)
	c.Run([]int{0})
	tells(t, "asleep", c.Poke(0), api.OK)
	tells(t, "awake again", c.Poke(0), api.ErrState)
	at, cell, _ := c.At(0)
	shows(t, "at", fmt.Sprint(at, cell, c.Steps()), "1 -1 1")
	shows(t, "on", fmt.Sprint(c.Run(same(3, 0)), c.Events()), "2 [{2 1 0 0}]")
	tells(t, "at its end", c.Poke(0), api.ErrState)
}

func TestEnds(t *testing.T) {
	c := machine(t, []uint64{0}, "halt", "wait 0 0; halt", "wait 0 0; halt")
	for _, x := range []struct {
		pick int
		want string
	}{{1, "false false"}, {2, "false false"}, {0, "false true"}} {
		c.Run([]int{x.pick})
		all, stuck := c.Ends()
		shows(t, "ends", fmt.Sprint(all, stuck), x.want)
	}
	tells(t, "poke", c.Poke(2), api.OK)
	all, stuck := c.Ends()
	shows(t, "one is awake", fmt.Sprint(all, stuck, c.Run([]int{2, 2})), "false false 1")
	all, stuck = c.Ends()
	shows(t, "the other one sleeps", fmt.Sprint(all, stuck), "false true")
	c.Poke(1)
	c.Run([]int{1})
	all, stuck = c.Ends()
	shows(t, "all", fmt.Sprint(all, stuck), "true false")
}

func TestRunCountsThePicksThatDidAStep(t *testing.T) {
	c := machine(t, []uint64{0}, "wait 0 0; halt", "let 0 5; wake 0 1 0; halt", "wake 0 1 -1; halt")
	shows(t, "none", fmt.Sprint(c.Run(nil), c.Run([]int{}), c.Run([]int{3, -1, math.MaxInt, math.MinInt}), c.Steps()), "0 0 0 0")
	shows(t, "some", fmt.Sprint(c.Run([]int{0, 0, 7, 1, 1, 1, 2, 0, 0, 2, 2}), c.Steps()), "6 6")
}

// values are those of registers and cells at which something may go another way.
var values = []int{0, 1, 2, 300, math.MaxInt, math.MinInt, -2, -1}

// ends are the registers whose numbers are asked.
var ends = []int{0, 7}

// tries are what a number of an instruction is to be, in a program that has it as its ninth of eighteen, on three cells.
func tries(has byte) []int {
	switch has {
	case 'R':
		return ends
	case 'M':
		return []int{0, 2}
	case 'N':
		return values
	case 'P':
		return []int{0, 8, 9, 12, 17}
	case 'O':
		return []int{-1, 0, 7}
	case 'S':
		return []int{0, 1, 31, 32, 62, 63}
	case 'W':
		return []int{1, 2, 32, 33, 62, 63}
	}
	return []int{0}
}

func TestEachOpDoesWhatItIsToDo(t *testing.T) {
	has := []string{api.Halt: "", api.Let: "RN", api.Copy: "RR", api.Plus: "RRN", api.Sum: "RRR", api.Field: "RRSW", api.Load: "RM", api.Store: "MRO",
		api.Fetch: "RMN", api.Swap: "RMRR", api.Jump: "P", api.Same: "RNP", api.Less: "RRP", api.Equal: "RRP", api.Wait: "MR", api.Wake: "MNO", api.Say: "NR"}
	for op, s := range has {
		s += "    "
		for _, a := range tries(s[0]) {
			for _, b := range tries(s[1]) {
				for _, c := range tries(s[2]) {
					for _, d := range tries(s[3]) {
						tryValues(t, api.Ins{Op: op, A: a, B: b, C: c, D: d})
					}
				}
			}
		}
	}
}

// tryValues lets a machine and its model do an instruction, whatever registers 0 and 7 and the cells have, and say all registers.
func tryValues(t *testing.T, x api.Ins) {
	t.Helper()
	for i, first := range values {
		for _, last := range values {
			var p []api.Ins
			for r := range api.MaxRegs {
				p = append(p, api.Ins{Op: api.Let, A: r, B: 1000 + r})
			}
			p[0].B, p[7].B = first, last
			p = append(p, x)
			for r := range api.MaxRegs {
				p = append(p, api.Ins{Op: api.Say, A: r, B: r})
			}
			p = append(p, api.Ins{})
			cells := []uint64{uint64(values[(i+5)%8]), 7, uint64(first)}
			both := newPair(t, fmt.Sprint(x, first, last), [][]api.Ins{p}, cells)
			for range 9 {
				both.step(0)
			}
			both.look()
			for range 9 {
				both.step(0)
			}
			both.look()
		}
	}
}

func TestFieldOfAllBits(t *testing.T) {
	words := []int{-1, 0x0123456789abcdef, math.MinInt, -0x123456789}
	for bit := range 64 {
		var p []api.Ins
		for width := 1; width < 64; width++ {
			p = append(p, api.Ins{Op: api.Field, A: 1, B: 0, C: bit, D: width}, api.Ins{Op: api.Say, A: width, B: 1})
			p = append(p, api.Ins{Op: api.Copy, A: 2, B: 0}, api.Ins{Op: api.Field, A: 2, B: 2, C: bit, D: width}, api.Ins{Op: api.Say, A: width, B: 2})
		}
		for _, word := range words {
			both := newPair(t, fmt.Sprint("field from ", bit, " of ", word), [][]api.Ins{append([]api.Ins{{Op: api.Let, B: word}}, append(p, api.Ins{})...)}, nil)
			for range len(p) + 2 {
				both.step(0)
			}
			both.look()
		}
	}
}

func TestAllSessionsOfThree(t *testing.T) {
	programs := [][]api.Ins{
		program(t, "wait 0 0; fetch 0 0 1; wait 0 2; halt"),
		program(t, "wait 0 1; say 9 1; wake 0 1 0; halt"),
		program(t, "wake 0 1 -1; fetch 1 0 1; store 1 1 1; jump 0"),
	}
	const calls = 6
	sessions := 1
	for long := range 7 {
		for session := range sessions {
			both := newPair(t, fmt.Sprint("session ", session, " of ", long), programs, []uint64{0, 0})
			rest := session
			for range long {
				if call := rest % calls; call < 3 {
					both.step(call)
				} else {
					both.poke(call - 3)
				}
				rest /= calls
			}
			both.look()
		}
		sessions *= calls
	}
}

// somePrograms are programs that may be, on three cells, of all Ops.
func somePrograms(random *rand.Rand) [][]api.Ins {
	programs := make([][]api.Ins, 1+random.Intn(4))
	for t := range programs {
		n := 2 + random.Intn(12)
		for i := range n {
			x := api.Ins{Op: 1 + random.Intn(api.Ops-1), A: random.Intn(4), B: random.Intn(4), C: random.Intn(4), D: random.Intn(4)}
			if i == n-1 {
				x = api.Ins{Op: api.Jump, A: random.Intn(n)}
			}
			if right(x, n) {
				programs[t] = append(programs[t], x)
			} else {
				programs[t] = append(programs[t], api.Ins{Op: api.Fetch, A: x.A, B: random.Intn(3), C: x.C - 1})
			}
		}
	}
	return programs
}

// right says whether an instruction may be one of so many, on three cells.
func right(x api.Ins, n int) bool {
	return code.Right(append(slices.Repeat([]api.Ins{x}, n-1), api.Ins{}), 3) == nil
}

func TestSomeProgramsInSomeOrders(t *testing.T) {
	random := rand.New(rand.NewSource(4))
	for i := range 3000 {
		programs := somePrograms(random)
		both := newPair(t, fmt.Sprint("programs ", i, programs), programs, []uint64{0, 1, 2})
		for range 60 {
			thread := random.Intn(len(programs)+2) - 1
			if random.Intn(8) == 0 {
				both.poke(thread)
			} else {
				both.step(thread)
			}
		}
		both.look()
	}
}

func TestRunIsStepOneBehindTheOther(t *testing.T) {
	random := rand.New(rand.NewSource(5))
	for i := range 500 {
		programs := somePrograms(random)
		both := newPair(t, fmt.Sprint("programs ", i, programs), programs, []uint64{0, 1, 2})
		var picks []int
		for range random.Intn(40) {
			picks = append(picks, random.Intn(len(programs)+2)-1)
		}
		for _, thread := range picks {
			both.o.step(thread)
		}
		shows(t, both.name, both.c.Run(picks), fmt.Sprint(both.o.steps))
		both.look()
	}
}
