package fair_test

import (
	"fmt"
	"math"
	"math/rand"
	"slices"
	"strings"
	"testing"

	"quadrille/api"
	"quadrille/code"
	"quadrille/core"
	"quadrille/fair"
	"quadrille/plain"
	"quadrille/trial"
)

// shows checks what something looks like.
func shows(t *testing.T, name string, got any, want string) {
	t.Helper()
	if s := fmt.Sprint(got); s != want {
		t.Errorf("%s: got %.300s, want %.300s", name, s, want)
	}
}

// is checks what Is says.
func is(t *testing.T, picks []int, n, window int, want bool) {
	t.Helper()
	was := slices.Clone(picks)
	if got := fair.Is(picks, n, window); got != want {
		t.Errorf("is %v of %d in %d: got %v", picks, n, window, got)
	}
	if !slices.Equal(picks, was) {
		t.Errorf("is %v of %d in %d: written into", was, n, window)
	}
}

// each is Is as plainly as it is told.
func each(picks []int, n, window int) bool {
	for from := 0; from+window <= len(picks); from++ {
		for thread := range n {
			if !slices.Contains(picks[from:from+window], thread) {
				return false
			}
		}
	}
	return true
}

func TestIsOfEachWindow(t *testing.T) {
	is(t, []int{0, 1, 0, 1}, 2, 2, true)
	is(t, []int{0, 0, 1}, 2, 2, false)
	is(t, []int{0, 0, 1}, 2, 3, true)
	is(t, []int{0, 1, 1, 0}, 2, 2, false)
	is(t, []int{1, 0, 0}, 2, 2, false)
	is(t, []int{0, 1, 2, 1, 0, 2}, 3, 3, false)
	is(t, []int{0, 1, 2, 1, 0, 2}, 3, 4, true)
	is(t, []int{0, 0, 0}, 1, 1, true)
	is(t, []int{0, 0, 1}, 1, 1, false)
	is(t, []int{0, 1}, 2, 1, false)
}

func TestIsWhereThereIsNoWindowOrNobody(t *testing.T) {
	for _, window := range []int{3, 4, math.MaxInt} {
		is(t, []int{1, 1}, 2, window, true)
	}
	is(t, nil, 16, 1, true)
	is(t, []int{}, 2, math.MaxInt, true)
	is(t, []int{5, -1, 0}, 0, 1, true)
}

func TestIsWithPicksOfNobody(t *testing.T) {
	is(t, []int{0, math.MinInt, 1, math.MaxInt, 0}, 2, 4, true)
	is(t, []int{0, math.MinInt, 1, math.MaxInt, 0}, 2, 3, false)
	is(t, []int{-1, -1, 0, 16, 17}, 1, 3, true)
	is(t, []int{-1, -1, 0, 16, 17}, 1, 2, false)
}

func TestIsWithoutBounds(t *testing.T) {
	for _, n := range []int{math.MinInt, -1, 17, 18, math.MaxInt} {
		is(t, nil, n, 2, false)
		is(t, []int{0, 1}, n, math.MaxInt, false)
	}
	for _, window := range []int{math.MinInt, -1, 0} {
		is(t, nil, 0, window, false)
		is(t, []int{0, 1}, 2, window, false)
	}
	all := make([]int, 16)
	for i := range all {
		all[i] = 15 - i
	}
	is(t, slices.Repeat(all, 3), 16, 16, true)
	is(t, slices.Repeat(all, 3), 16, 15, false)
	is(t, append(all, all[1:]...), 16, 16, false)
}

func TestIsOfAllPicksOfUpToSeven(t *testing.T) {
	many := 1
	for long := range 8 {
		for k := range many {
			picks, rest := make([]int, long), k
			for i := range picks {
				picks[i], rest = rest%4, rest/4
			}
			for n := range 4 {
				for window := 1; window <= long+1; window++ {
					is(t, picks, n, window, each(picks, n, window))
				}
			}
		}
		many *= 4
	}
}

func TestIsOfSomePicks(t *testing.T) {
	random := rand.New(rand.NewSource(1))
	for range 2000 {
		n := 1 + random.Intn(16)
		var picks []int
		for range random.Intn(6) {
			for _, thread := range random.Perm(n + random.Intn(2)) {
				picks = append(picks, thread)
			}
		}
		for window := 1; window <= 2*n+2; window++ {
			is(t, picks, n, window, each(picks, n, window))
		}
	}
}

func TestRoundsAreAllOneBehindTheOther(t *testing.T) {
	for _, n := range []int{0, 1, 2, 3, 15, 16} {
		for _, times := range []int{0, 1, 2, 3, 999, 1000} {
			name := fmt.Sprint("rounds ", n, times)
			got, err := fair.Rounds(n, times)
			shows(t, name, err, "<nil>")
			shows(t, name, len(got), fmt.Sprint(n*times))
			for i, thread := range got {
				if thread != i%n {
					t.Fatalf("%s: got %d at %d", name, thread, i)
				}
			}
			is(t, got, n, max(n, 1), true)
		}
	}
	l, err := fair.Rounds(3, 2)
	shows(t, "three, twice", fmt.Sprint(l, err), "[0 1 2 0 1 2] <nil>")
}

func TestRoundsErrors(t *testing.T) {
	for _, x := range [][2]int{{-1, 1}, {17, 1}, {2, -1}, {2, 1001}, {17, 1001}, {-1, 0}, {0, -1}, {0, 1001}, {17, 0}, {math.MinInt, 1}, {math.MaxInt, 1}, {1, math.MinInt}, {1, math.MaxInt}, {math.MaxInt, math.MaxInt}} {
		l, err := fair.Rounds(x[0], x[1])
		if e, place := plain.Place(err); e != api.ErrRange || place != -1 || len(l) != 0 {
			t.Errorf("rounds %v: got %d picks and error %d at %d", x, len(l), e, place)
		}
	}
}

func TestRoundsAreTheCallers(t *testing.T) {
	one, _ := fair.Rounds(2, 2)
	clear(one[:cap(one)])
	other, _ := fair.Rounds(2, 2)
	shows(t, "anew", other, "[0 1 0 1]")
}

// machine is one of programs that are told in a line each, on two cells, both 0.
func machine(t *testing.T, programs ...string) *core.Core {
	t.Helper()
	var l [][]api.Ins
	for _, s := range programs {
		p, err := code.Parse(strings.ReplaceAll(s, "; ", "\n") + "\n")
		if err != nil {
			t.Fatalf("%q: %v", s, err)
		}
		l = append(l, p)
	}
	c, err := core.New(l, make([]uint64, 2))
	if err != nil {
		t.Fatal(err)
	}
	return c
}

// finish is Finish as plainly as it is told.
func finish(c *core.Core) int {
	steps := 0
	for {
		some := false
		for thread := 0; thread < c.Threads(); thread++ {
			if c.Can(thread) && c.Steps() < 20000 {
				_ = c.Step(thread)
				some = true
				steps++
			}
		}
		if !some {
			return steps
		}
	}
}

// looks is what a machine shows.
func looks(c *core.Core) string { return fmt.Sprint(trial.Looks(c)) }

func TestFinishGoesByNumberOverAndOver(t *testing.T) {
	c := machine(t, "say 7 0; say 8 0; halt", "halt", "say 9 0; say 9 0; say 9 0; halt")
	shows(t, "finish", fair.Finish(c), "8")
	shows(t, "events", c.Events(), "[{1 7 0 0} {3 9 2 0} {4 8 0 0} {5 9 2 0} {7 9 2 0}]")
	all, stuck := c.Ends()
	shows(t, "ends", fmt.Sprint(all, stuck), "true false")
}

func TestFinishOfNobody(t *testing.T) {
	c := machine(t)
	shows(t, "finish", fmt.Sprint(fair.Finish(c), c.Steps()), "0 0")
}

func TestFinishTellsHowManyStepsItDid(t *testing.T) {
	c := machine(t, "let 0 1; let 0 2; let 0 3; halt", "wait 0 0; halt")
	shows(t, "ahead", c.Run([]int{0, 0, 1, 1}), "3")
	shows(t, "finish", fmt.Sprint(fair.Finish(c), c.Steps()), "2 5")
	all, stuck := c.Ends()
	shows(t, "stuck", fmt.Sprint(all, stuck), "false true")
	shows(t, "once more", fmt.Sprint(fair.Finish(c), c.Steps()), "0 5")
	shows(t, "poke", c.Poke(1), "<nil>")
	shows(t, "woken", fmt.Sprint(fair.Finish(c), c.Steps()), "1 6")
}

func TestFinishGoesOnWhereOneIsWoken(t *testing.T) {
	// In the same turn, if its number is above; else in the next one.
	for _, x := range []struct {
		programs []string
		want     string
	}{
		{[]string{"wait 0 0; say 5 0; halt", "say 6 0; wake 0 1 -1; halt"}, "[{2 6 1 0} {4 5 0 0}]"},
		{[]string{"say 6 0; wake 0 1 -1; halt", "wait 0 0; say 5 0; halt"}, "[{1 6 0 0} {4 5 1 0}]"},
	} {
		c := machine(t, x.programs...)
		shows(t, "finish", fair.Finish(c), "6")
		shows(t, "events", c.Events(), x.want)
	}
}

func TestFinishAtMaxSteps(t *testing.T) {
	for _, ahead := range []int{0, 1, 2, 3, 19997, 19998, 19999, 20000} {
		c := machine(t, "say 1 0; jump 0", "jump 0", "halt")
		shows(t, "ahead", c.Run(slices.Repeat([]int{1}, ahead)), fmt.Sprint(ahead))
		shows(t, fmt.Sprint("finish behind ", ahead), fmt.Sprint(fair.Finish(c), c.Steps()), fmt.Sprint(20000-ahead, 20000))
		shows(t, "once more", fair.Finish(c), "0")
		all, stuck := c.Ends()
		shows(t, "ends", fmt.Sprint(all, stuck, c.Can(0)), "false false true")
		shows(t, "third one", c.Can(2), fmt.Sprint(ahead > 19997))
	}
}

func TestFinishCountsAStepThatTellsErrFalse(t *testing.T) {
	c := machine(t, "let 0 9; store 0 0 0; halt", "let 0 9; wake 0 1 0; halt")
	shows(t, "finish", fmt.Sprint(fair.Finish(c), c.Steps()), "4 4")
	c = machine(t, "let 0 9; store 0 0 0; halt", "halt")
	c.Run([]int{0, 1})
	shows(t, "that alone", fair.Finish(c), "1")
	all, stuck := c.Ends()
	shows(t, "ends", fmt.Sprint(all, stuck), "true false")
}

func TestFinishOfSomeMachines(t *testing.T) {
	random := rand.New(rand.NewSource(1))
	lines := []string{"fetch 1 0 1", "fetch 2 1 -1", "say 5 1", "wait 0 1", "wait 1 2", "wake 0 1 -1", "wake 1 2 -1", "store 0 2 1", "same 1 2 0", "less 2 1 0", "let 1 0", "halt"}
	for i := range 300 {
		var programs []string
		for range random.Intn(5) {
			s := ""
			for range random.Intn(8) {
				s += lines[random.Intn(len(lines))] + "; "
			}
			programs = append(programs, s+[]string{"halt", "jump 0"}[random.Intn(2)])
		}
		got, want := machine(t, programs...), machine(t, programs...)
		for range random.Intn(20) {
			picks := []int{random.Intn(6) - 1}
			got.Run(picks)
			want.Run(picks)
		}
		name := fmt.Sprint("machine ", i, programs)
		shows(t, name, fair.Finish(got), fmt.Sprint(finish(want)))
		shows(t, name, looks(got), looks(want))
	}
}
