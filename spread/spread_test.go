package spread_test

import (
	"math/rand"
	"strings"
	"testing"

	"quadrille/spread"
	"quadrille/trial"
)

// kind is this kind of barrier.
var kind = trial.Kind{Cells: spread.Cells, Code: spread.Code}

// levels is how often one is doubled to be so many, or more.
func levels(n int) int {
	l := 0
	for many := 1; many < n; many *= 2 {
		l++
	}
	return l
}

// body is what a party goes around, as the document has it.
func body(n, id int) string {
	s, many := "", 1
	for r := 0; r < levels(n); r++ {
		s += trial.Tell((id+many)%n*levels(n)+r, 1)
		s += trial.Await(5+strings.Count(s, ";"), id*levels(n)+r)
		many *= 2
	}
	return s
}

func TestFace(t *testing.T) {
	if wrong := kind.Face(); wrong != "" {
		t.Error(wrong)
	}
}

func TestCellsAreOneOfEachLevelOfEach(t *testing.T) {
	for k, want := range []int{0, 2, 6, 8, 15, 18, 21, 24, 36, 40, 44, 48, 52, 56, 60, 64} {
		if got, err := spread.Cells(k + 1); got != want || err != nil {
			t.Errorf("cells %d: got %d %v, want %d", k+1, got, err, want)
		}
	}
}

func TestCodeIsThatText(t *testing.T) {
	if wrong := kind.Bodies(body); wrong != "" {
		t.Error(wrong)
	}
}

func TestCodeOfWhoTellsOneFurtherOnOrRound(t *testing.T) {
	for _, one := range []struct {
		n, id int
		text  string
	}{
		{1, 0, ""},
		{2, 0, "store 1 0 -1; wake 1 1 -1; load 1 0; less 1 0 10; jump 12; wait 0 1; jump 7; "},
		{2, 1, "store 0 0 -1; wake 0 1 -1; load 1 1; less 1 0 10; jump 12; wait 1 1; jump 7; "},
		{3, 0, "store 2 0 -1; wake 2 1 -1; load 1 0; less 1 0 10; jump 12; wait 0 1; jump 7; " +
			"store 5 0 -1; wake 5 1 -1; load 1 1; less 1 0 17; jump 19; wait 1 1; jump 14; "},
		{3, 2, "store 0 0 -1; wake 0 1 -1; load 1 4; less 1 0 10; jump 12; wait 4 1; jump 7; " +
			"store 3 0 -1; wake 3 1 -1; load 1 5; less 1 0 17; jump 19; wait 5 1; jump 14; "},
		{5, 4, "store 0 0 -1; wake 0 1 -1; load 1 12; less 1 0 10; jump 12; wait 12 1; jump 7; " +
			"store 4 0 -1; wake 4 1 -1; load 1 13; less 1 0 17; jump 19; wait 13 1; jump 14; " +
			"store 11 0 -1; wake 11 1 -1; load 1 14; less 1 0 24; jump 26; wait 14 1; jump 21; "},
		{16, 15, "store 0 0 -1; wake 0 1 -1; load 1 60; less 1 0 10; jump 12; wait 60 1; jump 7; " +
			"store 5 0 -1; wake 5 1 -1; load 1 61; less 1 0 17; jump 19; wait 61 1; jump 14; " +
			"store 14 0 -1; wake 14 1 -1; load 1 62; less 1 0 24; jump 26; wait 62 1; jump 21; " +
			"store 31 0 -1; wake 31 1 -1; load 1 63; less 1 0 31; jump 33; wait 63 1; jump 28; "},
	} {
		if wrong := kind.Has(one.n, one.id, 2, one.text); wrong != "" {
			t.Errorf("%d of %d: %s", one.id, one.n, wrong)
		}
	}
}

func TestNobodyGoesAheadInAnyOrder(t *testing.T) {
	if wrong := kind.Orders([2]int{1, 0}, [2]int{1, 4}, [2]int{2, 0}, [2]int{2, 1}, [2]int{2, 4}, [2]int{3, 0}, [2]int{3, 1}, [2]int{3, 2}, [2]int{4, 1}); wrong != "" {
		t.Error(wrong)
	}
}

func TestNobodyGoesAheadOfMany(t *testing.T) {
	if wrong := kind.Many(rand.New(rand.NewSource(1)).Intn); wrong != "" {
		t.Error(wrong)
	}
}
