package trial_test

import (
	"fmt"
	"math/rand"
	"slices"
	"testing"

	"quadrille/api"
	"quadrille/core"
	"quadrille/trial"
)

// machine is one that has gone on.
func machine(t *testing.T, picks []int, texts ...string) *core.Core {
	t.Helper()
	c, err := core.New(programs(t, texts...), []uint64{5})
	if err != nil {
		t.Fatal(err)
	}
	c.Run(picks)
	return c
}

func TestAnswersAreOfEachCall(t *testing.T) {
	lists := [][]api.Call{{{What: api.Down}, {What: api.Trade, N: 7}}, {}, {{What: api.Once}}}
	c := machine(t, []int{0, 2, 2, 0, 0, 1}, "say 3 0; let 1 8; say 3 1; halt", "say 3 0; halt", "let 4 6; say 3 4; halt")
	want := []trial.Answer{{When: 1, Thread: 0, Call: lists[0][0]}, {When: 3, Thread: 2, Call: lists[2][0], Value: 6}, {When: 5, Thread: 0, Call: lists[0][1], Value: 8}, {When: 6, Thread: 1}}
	if got := trial.Answers(c, lists); fmt.Sprint(got) != fmt.Sprint(want) {
		t.Errorf("got %v, want %v", got, want)
	}
	// Another word is no answer.
	c = machine(t, []int{0, 0}, "say 2 0; say 3 0; halt")
	want = []trial.Answer{{When: 1}, {When: 2, Call: lists[0][1]}}
	if got := trial.Answers(c, lists[:1]); fmt.Sprint(got) != fmt.Sprint(want) {
		t.Errorf("another word: got %v, want %v", got, want)
	}
	if got := trial.Answers(machine(t, nil, "halt"), lists[:1]); len(got) != 0 {
		t.Errorf("nothing: got %v", got)
	}
}

func TestLastActIsOfAThread(t *testing.T) {
	c := machine(t, []int{0, 1, 0, 1, 1}, "load 1 0; fetch 1 0 2; halt", "fetch 2 0 1; fetch 2 0 1; let 2 7; halt", "halt")
	for thread, want := range []api.Act{
		{When: 3, Thread: 0, Op: api.Fetch, Old: 6, Now: 8},
		{When: 4, Thread: 1, Op: api.Fetch, Old: 8, Now: 9},
		{},
	} {
		if got := trial.LastAct(c, thread); got != want {
			t.Errorf("%d: got %v, want %v", thread, got, want)
		}
	}
}

func TestLastAnswerIsOfTheLastStep(t *testing.T) {
	lists := [][]api.Call{{{What: api.Down}}, {{What: api.Once}}}
	c, none := machine(t, nil, "say 3 0; let 1 8; halt", "load 4 0; say 3 4; halt"), "{0 0 {0 0} 0} false"
	tells := func(want string) {
		t.Helper()
		a, ok := trial.LastAnswer(c, lists)
		if got := fmt.Sprint(a, ok); got != want {
			t.Errorf("behind %d steps: got %s, want %s", c.Steps(), got, want)
		}
	}
	tells(none)
	for _, x := range []struct {
		thread int
		want   string
	}{{0, "{1 0 {1 0} 0} true"}, {0, none}, {1, none}, {1, "{4 1 {18 0} 5} true"}, {0, none}} {
		c.Run([]int{x.thread})
		tells(x.want)
	}
}

func TestWaitsAreWhoIsNotAtItsEndOrUnanswered(t *testing.T) {
	down, once := api.Call{What: api.Down}, api.Call{What: api.Once}
	lists := [][]api.Call{{down, once}, {once}, {down}, {once}, {}, {down}}
	c := machine(t, []int{0, 0, 1, 2, 2, 3, 4, 4, 5, 5},
		"say 3 0; wait 0 7; halt", // it goes on, as the cell isn't 0
		"say 3 0; halt",
		"say 3 0; halt",
		"load 1 0; halt",
		"load 1 0; wait 0 1; halt",
		"load 1 0; halt",
	)
	want := []trial.Wait{{0, -1, once}, {1, -1, api.Call{}}, {3, -1, once}, {4, 0, api.Call{}}, {5, -1, down}}
	if got := trial.Waits(c, lists); !slices.Equal(got, want) {
		t.Errorf("got %v, want %v", got, want)
	}
	c.Run([]int{0, 0, 1, 3})
	want[2].Cell = -1
	want = slices.Delete(want, 1, 2)
	if got := trial.Waits(c, lists); !slices.Equal(got, want) {
		t.Errorf("at their ends: got %v, want %v", got, want)
	}
	if got := trial.Waits(machine(t, []int{0, 0}, "say 3 0; halt"), [][]api.Call{{down}}); len(got) > 0 {
		t.Errorf("nobody waits: got %v", got)
	}
}

func TestListsAreOfWholePieces(t *testing.T) {
	random := rand.New(rand.NewSource(1))
	a, b, c := api.Call{What: api.Lock}, api.Call{What: api.Unlock}, api.Call{What: api.Once}
	threads, lengths, firsts := map[int]bool{}, map[int]bool{}, map[api.Call]bool{}
	for range 1000 {
		lists := trial.Lists(random.Intn, []api.Call{a, b}, []api.Call{c})
		threads[len(lists)] = true
		for _, l := range lists {
			lengths[len(l)] = true
			for i, x := range l {
				if (x == b) != (i > 0 && l[i-1] == a) {
					t.Fatalf("%v is cut", l)
				}
			}
			if len(l) > 0 {
				firsts[l[0]] = true
			}
		}
	}
	if len(threads) != api.MaxThreads || threads[0] || len(lengths) != api.MaxCalls+1 || len(firsts) != 2 {
		t.Errorf("so many threads: %v; calls: %v; first: %v", threads, lengths, firsts)
	}
}
