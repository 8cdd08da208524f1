package combine_test

import (
	"fmt"
	"math/rand"
	"slices"
	"testing"

	"quadrille/central"
	"quadrille/combine"
	"quadrille/trial"
)

// kind is this kind of barrier.
var kind = trial.Kind{Cells: combine.Cells, Code: combine.Code}

// node is one of the tree, or a party below it.
type node struct {
	number, size int
	above        *node
}

// parties are those below a tree that is built row by row, and how many nodes it has.
func parties(n int) ([]*node, int) {
	var all []*node
	for range n {
		all = append(all, &node{})
	}
	nodes := 0
	for row := all; ; {
		var next []*node
		for group := range slices.Chunk(row, 2) {
			up := &node{number: nodes, size: len(group)}
			nodes++
			for _, below := range group {
				below.above = up
			}
			next = append(next, up)
		}
		if row = next; len(row) == 1 {
			return all, nodes
		}
	}
}

// body is what a party goes around, as the document has it.
func body(n, id int) string {
	all, _ := parties(n)
	var path []*node
	for at := all[id].above; at != nil; at = at.above {
		path = append(path, at)
	}
	h := len(path)
	down := func(j int) int { return 5 + 8*h + 4*(h-1-j) }
	s := ""
	for j, at := range path {
		p, cell := 5+8*j, 2*at.number
		s += fmt.Sprintf("fetch 1 %d 1; same 1 %d %d; ", cell, at.size-1, p+8)
		s += trial.Await(p+2, cell+1)
		s += fmt.Sprintf("jump %d; ", down(j-1))
	}
	for _, at := range slices.Backward(path) {
		s += fmt.Sprintf("let 2 0; store %d 2 -1; ", 2*at.number)
		s += trial.Tell(2*at.number+1, at.size)
	}
	return s
}

func TestFace(t *testing.T) {
	if wrong := kind.Face(); wrong != "" {
		t.Error(wrong)
	}
}

func TestCellsAreTwoOfEachNode(t *testing.T) {
	for k, want := range []int{2, 2, 6, 6, 12, 12, 14, 14, 22, 22, 24, 24, 28, 28, 30, 30} {
		n := k + 1
		if got, err := combine.Cells(n); got != want || err != nil {
			t.Errorf("cells %d: got %d %v, want %d", n, got, err, want)
		}
		if _, nodes := parties(n); 2*nodes != want {
			t.Errorf("the tree of %d has %d nodes", n, nodes)
		}
	}
}

func TestCodeIsThatText(t *testing.T) {
	if wrong := kind.Bodies(body); wrong != "" {
		t.Error(wrong)
	}
}

func TestCodeOfOneAloneAtItsNode(t *testing.T) {
	const alone = "fetch 1 0 1; same 1 0 13; load 1 1; less 1 0 10; jump 12; wait 1 1; jump 7; jump 17; " +
		"let 2 0; store 0 2 -1; store 1 0 -1; wake 1 1 -1; "
	const third = "fetch 1 2 1; same 1 0 13; load 1 3; less 1 0 10; jump 12; wait 3 1; jump 7; jump 29; " +
		"fetch 1 4 1; same 1 1 21; load 1 5; less 1 0 18; jump 20; wait 5 1; jump 15; jump 25; " +
		"let 2 0; store 4 2 -1; store 5 0 -1; wake 5 2 -1; " +
		"let 2 0; store 2 2 -1; store 3 0 -1; wake 3 1 -1; "
	const fifth = "fetch 1 4 1; same 1 0 13; load 1 5; less 1 0 10; jump 12; wait 5 1; jump 7; jump 41; " +
		"fetch 1 8 1; same 1 0 21; load 1 9; less 1 0 18; jump 20; wait 9 1; jump 15; jump 37; " +
		"fetch 1 10 1; same 1 1 29; load 1 11; less 1 0 26; jump 28; wait 11 1; jump 23; jump 33; " +
		"let 2 0; store 10 2 -1; store 11 0 -1; wake 11 2 -1; " +
		"let 2 0; store 8 2 -1; store 9 0 -1; wake 9 1 -1; " +
		"let 2 0; store 4 2 -1; store 5 0 -1; wake 5 1 -1; "
	for n, text := range map[int]string{1: alone, 3: third, 5: fifth} {
		if wrong := kind.Has(n, n-1, 2, text); wrong != "" {
			t.Errorf("the last one of %d: %s", n, wrong)
		}
	}
}

func TestCodeOfTwoIsTheCentralOne(t *testing.T) {
	for id := range 2 {
		got, _ := combine.Code(2, id, 3)
		if want, _ := central.Code(2, id, 3); !slices.Equal(got, want) {
			t.Errorf("%d: got %v, want %v", id, got, want)
		}
	}
}

func TestNobodyGoesAheadInAnyOrder(t *testing.T) {
	if wrong := kind.Orders([2]int{1, 0}, [2]int{1, 4}, [2]int{2, 0}, [2]int{2, 1}, [2]int{2, 4}, [2]int{3, 0}, [2]int{3, 1}, [2]int{3, 2}, [2]int{4, 1}); wrong != "" {
		t.Error(wrong)
	}
}

func TestNobodyGoesAheadOfMany(t *testing.T) {
	if wrong := kind.Many(rand.New(rand.NewSource(1)).Intn); wrong != "" {
		t.Error(wrong)
	}
}
