package trial_test

import (
	"fmt"
	"strings"
	"testing"

	"quadrille/api"
	"quadrille/central"
	"quadrille/trial"
)

func TestPiecesAreAsTheDocumentHasThem(t *testing.T) {
	if got, want := trial.Await(7, 1), "load 1 1; less 1 0 10; jump 12; wait 1 1; jump 7; "; got != want {
		t.Errorf("got %q, want %q", got, want)
	}
	if got, want := trial.Tell(3, 16), "store 3 0 -1; wake 3 16 -1; "; got != want {
		t.Errorf("got %q, want %q", got, want)
	}
}

func TestHasFindsAnotherBody(t *testing.T) {
	const body = "fetch 1 0 1; same 1 1 13; load 1 1; less 1 0 10; jump 12; wait 1 1; jump 7; jump 17; let 2 0; store 0 2 -1; store 1 0 -1; wake 1 2 -1; "
	k := trial.Kind{Cells: central.Cells, Code: central.Code}
	if wrong := k.Has(2, 1, 3, body); wrong != "" {
		t.Error(wrong)
	}
	for _, one := range []struct {
		code        maker
		body, wrong string
	}{
		{central.Code, "", "got\n"},
		{central.Code, body + "halt; ", "got\n"},
		{central.Code, strings.Replace(body, "jump 17", "jump 16", 1), "got\n"},
		{central.Code, "fetch 1 0; ", "no program: "},
		{but(map[int]api.Ins{0: {Op: api.Let, A: 0, B: 2}}), body, "got\n"},
		{but(map[int]api.Ins{19: {Op: api.Jump, A: 3}}), body, "got\n"},
		{but(map[int]api.Ins{3: {Op: api.Halt, D: 1}}), body, "got\n"},
		{codeAt([3]int{2, 1, 3}, nil, api.ErrFull), body, api.ErrFull.Error()},
	} {
		if got := (trial.Kind{Code: one.code}).Has(2, 1, 3, one.body); !strings.HasPrefix(got, one.wrong) || got == "" {
			t.Errorf("%q: got %q, want %q", one.body, got, one.wrong)
		}
	}
}

func TestBodiesAreOfAllParties(t *testing.T) {
	for _, at := range [][3]int{{1, 0, 0}, {2, 1, 0}, {9, 3, 7}, {16, 15, 20}, {17, 0, 0}} {
		code := func(n, id, rounds int) ([]api.Ins, error) {
			if at == [3]int{n, id, rounds} {
				return nil, nil
			}
			return none(n, id, rounds)
		}
		want := fmt.Sprintf("at %d %d %d: got\n", at[0], at[1], at[2])
		if at[0] > api.MaxThreads {
			want = ""
		}
		got := trial.Kind{Code: code}.Bodies(func(n, id int) string { return "" })
		if got == "" != (want == "") || !strings.HasPrefix(got, want) {
			t.Errorf("%v: got %q, want %q", at, got, want)
		}
	}
}
