package trial_test

import (
	"slices"
	"testing"

	"quadrille/api"
	"quadrille/trial"
)

func TestWalkIsOfOneLegBehindTheOther(t *testing.T) {
	legs := []trial.Leg{
		{Thread: 0, Steps: 2, Cells: "5", Asleep: "0"},
		{Thread: 2, Steps: 0, Cells: "5", Asleep: "0"},
		{Thread: 2, Steps: 2, Cells: "5", Asleep: "0 2"},
		{Thread: 1, Steps: 3, Cells: "18446744073709551615", Asleep: "0 2", Said: "-1"},
		{Thread: 1, Steps: 1, Cells: "18446744073709551615", Asleep: "2"},
		{Thread: 0, Steps: 3, Cells: "18446744073709551615", Asleep: "2", Said: "5 0"},
	}
	for _, x := range []struct {
		leg   int
		wrong trial.Leg
		want  string
	}{
		{5, legs[5], ""},
		{0, trial.Leg{Thread: 3, Steps: 1, Cells: "5"}, "thread 3 doesn't go on behind step 0"},
		{0, trial.Leg{Cells: "4"}, "the cells are 5 behind step 0"},
		{0, trial.Leg{Cells: "5 5"}, "the cells are 5 behind step 0"},
		{0, trial.Leg{Cells: "5", Said: "0"}, "said is  behind step 0"},
		{0, trial.Leg{Thread: 0, Steps: 2, Cells: "5"}, "asleep are 0 behind step 2"},
		{0, trial.Leg{Thread: 0, Steps: 3, Cells: "5", Asleep: "0"}, "thread 0 doesn't go on behind step 2"},
		{0, trial.Leg{Thread: 1, Steps: 1, Cells: "5", Asleep: "1"}, "asleep are  behind step 1"},
		{2, trial.Leg{Thread: 2, Steps: 2, Cells: "5", Asleep: "2 0"}, "asleep are 0 2 behind step 4"},
		{3, trial.Leg{Thread: 1, Steps: 2, Cells: "5", Asleep: "0 2"}, "the cells are 18446744073709551615 behind step 6"},
		{3, trial.Leg{Thread: 1, Steps: 3, Cells: "18446744073709551615", Asleep: "0 2"}, "said is -1 behind step 7"},
		{5, trial.Leg{Thread: 0, Steps: 3, Cells: "18446744073709551615", Asleep: "2", Said: "-1 5 0"}, "said is 5 0 behind step 11"},
		{5, trial.Leg{Thread: 0, Steps: 5, Cells: "18446744073709551615", Asleep: "2", Said: "5 0"}, "thread 0 doesn't go on behind step 12"},
	} {
		c := machine(t, nil, "let 1 5; wait 0 1; say 3 1; say 3 0; let 1 7; halt", "let 2 -1; store 0 2 -1; say 3 2; wake 0 1 -1; halt", "let 1 5; wait 0 1; halt")
		if got := trial.Walk(c, append(slices.Clone(legs[:x.leg]), x.wrong)...); got != x.want {
			t.Errorf("leg %d: got %q, want %q", x.leg, got, x.want)
		}
	}
}

func TestWalkOfCallsIsOfNewThreads(t *testing.T) {
	k, lists := trial.Calls{Code: made, Text: text}, [][]api.Call{{trade}, {once}}
	legs := []trial.Leg{{Thread: 1, Steps: 1, Cells: "0 7", Asleep: "1"}, {Thread: 0, Steps: 4, Cells: "0 7", Asleep: "1", Said: "1000"}}
	for _, x := range []struct {
		lists [][]api.Call
		cells []uint64
		want  string
	}{
		{lists, []uint64{0, 7}, ""},
		{lists, []uint64{0, 8}, "the cells are 0 8 behind step 1"},
		{lists, []uint64{1, 7}, "the cells are 1 7 behind step 1"},
		{[][]api.Call{{trade}, {trade}}, []uint64{0, 7}, "asleep are  behind step 1"},
		{lists, nil, api.ErrRange.Error()},
		{[][]api.Call{{{}}}, []uint64{0, 7}, api.ErrArg.Error()},
	} {
		if got := k.Walk(x.lists, x.cells, legs...); got != x.want {
			t.Errorf("%v, %v: got %q, want %q", x.lists, x.cells, got, x.want)
		}
	}
}
