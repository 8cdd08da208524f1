package static_test

import (
	"math/rand"
	"testing"

	"quadrille/api"
	"quadrille/core"
	"quadrille/static"
	"quadrille/trial"
)

// kind is this kind of barrier.
var kind = trial.Kind{Cells: static.Cells, Code: static.Code}

// body is what a party goes around, as the document has it.
func body(n, id int) string {
	place, s := 5, ""
	for _, other := range []int{2*id + 1, 2*id + 2} {
		if other < n {
			s += trial.Await(place, other)
			place += 5
		}
	}
	if id == 0 {
		return s + trial.Tell(n, n)
	}
	return s + trial.Tell(id, 1) + trial.Await(place+2, n)
}

func TestFace(t *testing.T) {
	if wrong := kind.Face(); wrong != "" {
		t.Error(wrong)
	}
}

func TestCellsAreOneMore(t *testing.T) {
	for n := 1; n <= api.MaxThreads; n++ {
		if got, err := static.Cells(n); got != n+1 || err != nil {
			t.Errorf("cells %d: got %d %v", n, got, err)
		}
	}
}

func TestCodeIsThatText(t *testing.T) {
	if wrong := kind.Bodies(body); wrong != "" {
		t.Error(wrong)
	}
}

func TestCodeOfWhoAwaitsNoneOneOrTwo(t *testing.T) {
	for _, one := range []struct {
		n, id int
		text  string
	}{
		{1, 0, "store 1 0 -1; wake 1 1 -1; "},
		{2, 0, "load 1 1; less 1 0 8; jump 10; wait 1 1; jump 5; store 2 0 -1; wake 2 2 -1; "},
		{2, 1, "store 1 0 -1; wake 1 1 -1; load 1 2; less 1 0 10; jump 12; wait 2 1; jump 7; "},
		{3, 0, "load 1 1; less 1 0 8; jump 10; wait 1 1; jump 5; load 1 2; less 1 0 13; jump 15; wait 2 1; jump 10; store 3 0 -1; wake 3 3 -1; "},
		{4, 1, "load 1 3; less 1 0 8; jump 10; wait 3 1; jump 5; store 1 0 -1; wake 1 1 -1; load 1 4; less 1 0 15; jump 17; wait 4 1; jump 12; "},
		{16, 7, "load 1 15; less 1 0 8; jump 10; wait 15 1; jump 5; store 7 0 -1; wake 7 1 -1; load 1 16; less 1 0 15; jump 17; wait 16 1; jump 12; "},
		{16, 6, "load 1 13; less 1 0 8; jump 10; wait 13 1; jump 5; load 1 14; less 1 0 13; jump 15; wait 14 1; jump 10; store 6 0 -1; wake 6 1 -1; load 1 16; less 1 0 20; jump 22; wait 16 1; jump 17; "},
		{16, 15, "store 15 0 -1; wake 15 1 -1; load 1 16; less 1 0 10; jump 12; wait 16 1; jump 7; "},
	} {
		if wrong := kind.Has(one.n, one.id, 2, one.text); wrong != "" {
			t.Errorf("%d of %d: %s", one.id, one.n, wrong)
		}
	}
}

func TestTwoInTurnsAreDoneInThirtySixSteps(t *testing.T) {
	first, _ := static.Code(2, 0, 1)
	other, _ := static.Code(2, 1, 1)
	c, err := core.New([][]api.Ins{first, other}, make([]uint64, 3))
	if err != nil {
		t.Fatal(err)
	}
	for range 100 {
		c.Run([]int{0, 1})
	}
	if all, _ := c.Ends(); !all || c.Steps() != 36 {
		t.Errorf("got %t %d", all, c.Steps())
	}
}

func TestNobodyGoesAheadInAnyOrder(t *testing.T) {
	if wrong := kind.Orders([2]int{1, 0}, [2]int{1, 4}, [2]int{2, 0}, [2]int{2, 1}, [2]int{2, 4}, [2]int{3, 0}, [2]int{3, 1}, [2]int{3, 2}, [2]int{4, 1}); wrong != "" {
		t.Error(wrong)
	}
}

func TestNobodyGoesAheadOfMany(t *testing.T) {
	if wrong := kind.Many(rand.New(rand.NewSource(1)).Intn); wrong != "" {
		t.Error(wrong)
	}
}
