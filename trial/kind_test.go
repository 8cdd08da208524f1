package trial_test

import (
	"math/rand"
	"strings"
	"testing"

	"quadrille/api"
	"quadrille/central"
	"quadrille/trial"
)

// counter tells how many cells so many need.
type counter func(n int) (int, error)

// cellsAt tells another number, and another error, of so many.
func cellsAt(at, cells int, err error) counter {
	return func(n int) (int, error) {
		if n == at {
			return cells, err
		}
		return central.Cells(n)
	}
}

// codeAt has another program, and another error, for one party.
func codeAt(at [3]int, l []api.Ins, err error) maker {
	return func(n, id, rounds int) ([]api.Ins, error) {
		if at == [3]int{n, id, rounds} {
			return l, err
		}
		return central.Code(n, id, rounds)
	}
}

func TestFaceOfWhatHoldsIsRight(t *testing.T) {
	if wrong := (trial.Kind{Cells: central.Cells, Code: central.Code}).Face(); wrong != "" {
		t.Error(wrong)
	}
}

func TestFaceFindsWrongCells(t *testing.T) {
	for want, cells := range map[string]counter{
		"cells: not ErrRange at 0":             cellsAt(0, 0, nil),
		"cells: not ErrRange at -1":            cellsAt(-1, 0, api.ErrArg),
		"cells: not ErrRange at 17":            cellsAt(17, 0, &api.At{Err: api.ErrRange}),
		"cells: an answer beside an error at ": cellsAt(17, 2, api.ErrRange),
		"cells: an error at 16":                cellsAt(16, 2, api.ErrRange),
		"cells: no memory has so many at 3":    cellsAt(3, api.MaxCells+1, nil),
		"cells: no memory has so many at 4":    cellsAt(4, -1, nil),
		"code: no program on so many cells at": cellsAt(5, 1, nil),
	} {
		if got := (trial.Kind{Cells: cells, Code: central.Code}).Face(); !strings.HasPrefix(got, want) {
			t.Errorf("got %q, want %q", got, want)
		}
	}
}

func TestFaceFindsWrongCode(t *testing.T) {
	halt, kept := []api.Ins{{Op: api.Halt}}, []api.Ins{{Op: api.Say, A: 1}, {Op: api.Halt}}
	for want, code := range map[string]maker{
		"code: not ErrRange at 0 0 0":                codeAt([3]int{0, 0, 0}, nil, nil),
		"code: not ErrRange at 17 16 20":             codeAt([3]int{17, 16, 20}, nil, nil),
		"code: not ErrRange at 2 2 0":                codeAt([3]int{2, 2, 0}, nil, api.ErrArg),
		"code: not ErrRange at 2 -1 0":               codeAt([3]int{2, -1, 0}, nil, &api.At{Err: api.ErrRange}),
		"code: not ErrRange at 1 0 21":               codeAt([3]int{1, 0, 21}, nil, nil),
		"code: not ErrRange at 1 0 -1":               codeAt([3]int{1, 0, -1}, nil, nil),
		"code: an answer beside an error at 1 0 21":  codeAt([3]int{1, 0, 21}, halt, api.ErrRange),
		"code: an error at 16 15 20":                 codeAt([3]int{16, 15, 20}, halt, api.ErrRange),
		"code: no program on so many cells at 1 0 0": codeAt([3]int{1, 0, 0}, nil, nil),
		"code: not the same once more at 3 2 1":      codeAt([3]int{3, 2, 1}, kept, nil),
	} {
		if got := (trial.Kind{Cells: central.Cells, Code: code}).Face(); got != want {
			t.Errorf("got %q, want %q", got, want)
		}
	}
}

func TestForIsOnAsManyCellsAsAreTold(t *testing.T) {
	k := trial.Kind{Cells: cellsAt(2, 7, nil), Code: central.Code}
	if b := k.For(2, 3); b.N != 2 || b.Rounds != 3 || b.Cells != 7 || b.Code == nil {
		t.Errorf("got %d %d %d", b.N, b.Rounds, b.Cells)
	}
}

// noneOf lets all go as they come, if they are so many, and for so many rounds.
func noneOf(many, times int) maker {
	return func(n, id, rounds int) ([]api.Ins, error) {
		if n == many && rounds == times {
			return none(n, id, rounds)
		}
		return central.Code(n, id, rounds)
	}
}

func TestOrdersAreOfEachSize(t *testing.T) {
	k := trial.Kind{Cells: central.Cells, Code: noneOf(2, 1)}
	if got := k.Orders([2]int{1, 1}, [2]int{2, 0}, [2]int{2, 2}); got != "" {
		t.Errorf("without it: got %q", got)
	}
	if got := k.Orders([2]int{1, 1}, [2]int{2, 1}, [2]int{2, 2}); !strings.HasPrefix(got, ahead) || !strings.HasSuffix(got, " of 2 1") {
		t.Errorf("with it: got %q", got)
	}
}

func TestManyAreAllThatMayBe(t *testing.T) {
	for want, code := range map[string]maker{"": central.Code, " of 2 1": noneOf(2, 1), " of 9 5": noneOf(9, 5), " of 16 20": noneOf(16, 20)} {
		got := (trial.Kind{Cells: central.Cells, Code: code}).Many(rand.New(rand.NewSource(1)).Intn)
		if got == "" != (want == "") || !strings.HasSuffix(got, want) {
			t.Errorf("got %q, want %q", got, want)
		}
	}
}
