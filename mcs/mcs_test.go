package mcs_test

import (
	"math/rand"
	"strings"
	"testing"

	"quadrille/api"
	"quadrille/mcs"
	"quadrille/trial"
)

// kind is this kind of barrier.
var kind = trial.Kind{Cells: mcs.Cells, Code: mcs.Code}

// body is what a party goes around, as the document has it.
func body(n, id int) string {
	s := ""
	for _, c := range []int{4*id + 1, 4*id + 2, 4*id + 3, 4*id + 4} {
		if c < n {
			s += trial.Await(5+strings.Count(s, ";"), c)
		}
	}
	if id != 0 {
		s += trial.Tell(id, 1)
		s += trial.Await(5+strings.Count(s, ";"), n+id)
	}
	for _, c := range []int{2*id + 1, 2*id + 2} {
		if c < n {
			s += trial.Tell(n+c, 1)
		}
	}
	return s
}

func TestFace(t *testing.T) {
	if wrong := kind.Face(); wrong != "" {
		t.Error(wrong)
	}
}

func TestCellsAreTwoOfEach(t *testing.T) {
	for n := 1; n <= api.MaxThreads; n++ {
		if got, err := mcs.Cells(n); got != 2*n || err != nil {
			t.Errorf("cells %d: got %d %v", n, got, err)
		}
	}
}

func TestCodeIsThatText(t *testing.T) {
	if wrong := kind.Bodies(body); wrong != "" {
		t.Error(wrong)
	}
}

func TestCodeOfWhoAwaitsUpToFourAndWakesUpToTwo(t *testing.T) {
	for _, one := range []struct {
		n, id int
		text  string
	}{
		{1, 0, ""},
		{2, 0, "load 1 1; less 1 0 8; jump 10; wait 1 1; jump 5; store 3 0 -1; wake 3 1 -1; "},
		{2, 1, "store 1 0 -1; wake 1 1 -1; load 1 3; less 1 0 10; jump 12; wait 3 1; jump 7; "},
		// Three come to 0, which wakes two; the other one wakes the third.
		{4, 0, "load 1 1; less 1 0 8; jump 10; wait 1 1; jump 5; load 1 2; less 1 0 13; jump 15; wait 2 1; jump 10; " +
			"load 1 3; less 1 0 18; jump 20; wait 3 1; jump 15; store 5 0 -1; wake 5 1 -1; store 6 0 -1; wake 6 1 -1; "},
		{4, 1, "store 1 0 -1; wake 1 1 -1; load 1 5; less 1 0 10; jump 12; wait 5 1; jump 7; store 7 0 -1; wake 7 1 -1; "},
		{16, 0, "load 1 1; less 1 0 8; jump 10; wait 1 1; jump 5; load 1 2; less 1 0 13; jump 15; wait 2 1; jump 10; " +
			"load 1 3; less 1 0 18; jump 20; wait 3 1; jump 15; load 1 4; less 1 0 23; jump 25; wait 4 1; jump 20; " +
			"store 17 0 -1; wake 17 1 -1; store 18 0 -1; wake 18 1 -1; "},
		{16, 3, "load 1 13; less 1 0 8; jump 10; wait 13 1; jump 5; load 1 14; less 1 0 13; jump 15; wait 14 1; jump 10; " +
			"load 1 15; less 1 0 18; jump 20; wait 15 1; jump 15; store 3 0 -1; wake 3 1 -1; " +
			"load 1 19; less 1 0 25; jump 27; wait 19 1; jump 22; store 23 0 -1; wake 23 1 -1; store 24 0 -1; wake 24 1 -1; "},
		{16, 7, "store 7 0 -1; wake 7 1 -1; load 1 23; less 1 0 10; jump 12; wait 23 1; jump 7; store 31 0 -1; wake 31 1 -1; "},
		{16, 15, "store 15 0 -1; wake 15 1 -1; load 1 31; less 1 0 10; jump 12; wait 31 1; jump 7; "},
	} {
		if wrong := kind.Has(one.n, one.id, 2, one.text); wrong != "" {
			t.Errorf("%d of %d: %s", one.id, one.n, wrong)
		}
	}
}

func TestNobodyGoesAheadInAnyOrder(t *testing.T) {
	if wrong := kind.Orders([2]int{1, 0}, [2]int{1, 4}, [2]int{2, 0}, [2]int{2, 1}, [2]int{2, 4}, [2]int{3, 0}, [2]int{3, 1}, [2]int{3, 2}, [2]int{4, 1}); wrong != "" {
		t.Error(wrong)
	}
}

func TestNobodyGoesAheadOfMany(t *testing.T) {
	if wrong := kind.Many(rand.New(rand.NewSource(1)).Intn); wrong != "" {
		t.Error(wrong)
	}
}
