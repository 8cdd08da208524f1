package central_test

import (
	"math/rand"
	"strconv"
	"testing"

	"quadrille/api"
	"quadrille/central"
	"quadrille/trial"
)

// kind is this kind of barrier.
var kind = trial.Kind{Cells: central.Cells, Code: central.Code}

// body is what a party goes around, as the document has it.
func body(n, id int) string {
	return "fetch 1 0 1; same 1 " + strconv.Itoa(n-1) + " 13; " + trial.Await(7, 1) + "jump 17; let 2 0; store 0 2 -1; " + trial.Tell(1, n)
}

func TestFace(t *testing.T) {
	if wrong := kind.Face(); wrong != "" {
		t.Error(wrong)
	}
}

func TestCellsAreTwo(t *testing.T) {
	for n := 1; n <= api.MaxThreads; n++ {
		if got, err := central.Cells(n); got != 2 || err != nil {
			t.Errorf("cells %d: got %d %v", n, got, err)
		}
	}
}

func TestCodeIsThatText(t *testing.T) {
	if wrong := kind.Bodies(body); wrong != "" {
		t.Error(wrong)
	}
}

func TestNobodyGoesAheadInAnyOrder(t *testing.T) {
	if wrong := kind.Orders([2]int{1, 0}, [2]int{1, 4}, [2]int{2, 0}, [2]int{2, 1}, [2]int{2, 4}, [2]int{3, 1}, [2]int{3, 2}); wrong != "" {
		t.Error(wrong)
	}
}

func TestNobodyGoesAheadOfMany(t *testing.T) {
	if wrong := kind.Many(rand.New(rand.NewSource(1)).Intn); wrong != "" {
		t.Error(wrong)
	}
}
