package tourney_test

import (
	"math/rand"
	"strings"
	"testing"

	"quadrille/tourney"
	"quadrille/trial"
)

// kind is this kind of barrier.
var kind = trial.Kind{Cells: tourney.Cells, Code: tourney.Code}

// levels is how often one is doubled to be so many, or more.
func levels(n int) int {
	l := 0
	for many := 1; many < n; many *= 2 {
		l++
	}
	return l
}

// body is what a party goes around, as the document has it.
func body(n, id int) string {
	L := levels(n)
	s, bit, r := "", 1, 0
	for r < L && id&bit == 0 {
		if id+bit < n {
			s += trial.Await(5+strings.Count(s, ";"), id*L+r)
		}
		bit, r = 2*bit, r+1
	}
	if r < L {
		s += trial.Tell((id-bit)*L+r, 1)
		s += trial.Await(5+strings.Count(s, ";"), n*L+id)
	}
	for r > 0 {
		bit, r = bit/2, r-1
		if id+bit < n {
			s += trial.Tell(n*L+id+bit, 1)
		}
	}
	return s
}

func TestFace(t *testing.T) {
	if wrong := kind.Face(); wrong != "" {
		t.Error(wrong)
	}
}

func TestCellsAreOneOfEachLevelAndAGateOfEach(t *testing.T) {
	for k, want := range []int{1, 4, 9, 12, 20, 24, 28, 32, 45, 50, 55, 60, 65, 70, 75, 80} {
		if got, err := tourney.Cells(k + 1); got != want || err != nil {
			t.Errorf("cells %d: got %d %v, want %d", k+1, got, err, want)
		}
	}
}

func TestCodeIsThatText(t *testing.T) {
	if wrong := kind.Bodies(body); wrong != "" {
		t.Error(wrong)
	}
}

func TestCodeOfWhoWinsAtAllAtSomeAndAtNoLevels(t *testing.T) {
	for _, one := range []struct {
		n, id int
		text  string
	}{
		{1, 0, ""},
		{2, 0, "load 1 0; less 1 0 8; jump 10; wait 0 1; jump 5; store 3 0 -1; wake 3 1 -1; "},
		{2, 1, "store 0 0 -1; wake 0 1 -1; load 1 3; less 1 0 10; jump 12; wait 3 1; jump 7; "},
		{3, 0, "load 1 0; less 1 0 8; jump 10; wait 0 1; jump 5; load 1 1; less 1 0 13; jump 15; wait 1 1; jump 10; " +
			"store 8 0 -1; wake 8 1 -1; store 7 0 -1; wake 7 1 -1; "},
		// Nobody comes to it: it goes on to the level where it comes to another one.
		{3, 2, "store 1 0 -1; wake 1 1 -1; load 1 8; less 1 0 10; jump 12; wait 8 1; jump 7; "},
		{5, 4, "store 2 0 -1; wake 2 1 -1; load 1 19; less 1 0 10; jump 12; wait 19 1; jump 7; "},
		{5, 2, "load 1 6; less 1 0 8; jump 10; wait 6 1; jump 5; store 1 0 -1; wake 1 1 -1; " +
			"load 1 17; less 1 0 15; jump 17; wait 17 1; jump 12; store 18 0 -1; wake 18 1 -1; "},
		// Somebody comes to it at the lowest level, and nobody at the next one.
		{6, 4, "load 1 12; less 1 0 8; jump 10; wait 12 1; jump 5; store 2 0 -1; wake 2 1 -1; " +
			"load 1 22; less 1 0 15; jump 17; wait 22 1; jump 12; store 23 0 -1; wake 23 1 -1; "},
		{16, 0, "load 1 0; less 1 0 8; jump 10; wait 0 1; jump 5; load 1 1; less 1 0 13; jump 15; wait 1 1; jump 10; " +
			"load 1 2; less 1 0 18; jump 20; wait 2 1; jump 15; load 1 3; less 1 0 23; jump 25; wait 3 1; jump 20; " +
			"store 72 0 -1; wake 72 1 -1; store 68 0 -1; wake 68 1 -1; store 66 0 -1; wake 66 1 -1; store 65 0 -1; wake 65 1 -1; "},
		{16, 12, "load 1 48; less 1 0 8; jump 10; wait 48 1; jump 5; load 1 49; less 1 0 13; jump 15; wait 49 1; jump 10; " +
			"store 34 0 -1; wake 34 1 -1; load 1 76; less 1 0 20; jump 22; wait 76 1; jump 17; " +
			"store 78 0 -1; wake 78 1 -1; store 77 0 -1; wake 77 1 -1; "},
		{16, 15, "store 56 0 -1; wake 56 1 -1; load 1 79; less 1 0 10; jump 12; wait 79 1; jump 7; "},
	} {
		if wrong := kind.Has(one.n, one.id, 2, one.text); wrong != "" {
			t.Errorf("%d of %d: %s", one.id, one.n, wrong)
		}
	}
}

func TestNobodyGoesAheadInAnyOrder(t *testing.T) {
	if wrong := kind.Orders([2]int{1, 0}, [2]int{1, 4}, [2]int{2, 0}, [2]int{2, 1}, [2]int{2, 4}, [2]int{3, 0}, [2]int{3, 1}, [2]int{3, 2}, [2]int{4, 1}); wrong != "" {
		t.Error(wrong)
	}
}

func TestNobodyGoesAheadOfMany(t *testing.T) {
	if wrong := kind.Many(rand.New(rand.NewSource(1)).Intn); wrong != "" {
		t.Error(wrong)
	}
}
