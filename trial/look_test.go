package trial_test

import (
	"fmt"
	"testing"

	"quadrille/api"
	"quadrille/code"
	"quadrille/core"
	"quadrille/trial"
)

func TestLooksIsAllThatAMachineShows(t *testing.T) {
	waits, _ := code.Parse("wait 1 0\nhalt\n")
	says, _ := code.Parse("fetch 1 0 3\nsay 7 1\nhalt\n")
	c, err := core.New([][]api.Ins{waits, says}, make([]uint64, 2))
	if err != nil {
		t.Fatal(err)
	}
	shows := func(want string) {
		t.Helper()
		if got := fmt.Sprint(trial.Looks(c)); got != want {
			t.Errorf("got %s, want %s", got, want)
		}
	}
	shows("{0 false false [0 0] [] [] [{0 -1 quadrille: error 00} {0 -1 quadrille: error 00}]}")
	c.Run([]int{1, 1, 0})
	shows("{3 false false [3 0] [{1 1 8 0 0 3}] [{2 7 1 0}] [{1 1 quadrille: error 00} {2 -1 quadrille: error 00}]}")
	c.Run([]int{1})
	shows("{4 false true [3 0] [{1 1 8 0 0 3}] [{2 7 1 0}] [{1 1 quadrille: error 00} {0 0 quadrille: error 06}]}")
	_ = c.Poke(0)
	c.Run([]int{0})
	shows("{5 true false [3 0] [{1 1 8 0 0 3}] [{2 7 1 0}] [{0 0 quadrille: error 06} {0 0 quadrille: error 06}]}")
}
