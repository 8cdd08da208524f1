package ask_test

import (
	"slices"
	"testing"

	"quadrille/api"
	"quadrille/ask"
	"quadrille/code"
	"quadrille/plain"
)

// once asks for one thing: to go on at the place behind that where it begins.
func once(c api.Call, place int) ([]api.Ins, bool) {
	return []api.Ins{{Op: api.Jump, A: place + 1}}, c == api.Call{What: api.Once}
}

// asks checks what the program of a list is, or which error is told, and where (-1: nowhere).
func asks(t *testing.T, l []api.Call, text string, wrong api.Errno, at int) {
	t.Helper()
	p, err := ask.Code(l, once)
	if e, place := plain.Place(err); e != wrong || place != at {
		t.Errorf("%v: got error %d at %d, want %d at %d", l, e, place, wrong, at)
	}
	if got, _ := code.Print(p); got != text {
		t.Errorf("%v: got %q, want %q", l, got, text)
	}
}

func TestCodeIsOfOneCallBehindTheOther(t *testing.T) {
	one, none := api.Call{What: api.Once}, api.Call{What: api.Once, N: 1}
	asks(t, nil, "halt\n", api.OK, -1)
	asks(t, []api.Call{one}, "jump 1\nhalt\n", api.OK, -1)
	asks(t, []api.Call{one, one, one}, "jump 1\njump 2\njump 3\nhalt\n", api.OK, -1)
	asks(t, []api.Call{none}, "", api.ErrArg, 0)
	asks(t, []api.Call{one, one, none, none}, "", api.ErrArg, 2)
	asks(t, slices.Repeat([]api.Call{one}, 12), "jump 1\njump 2\njump 3\njump 4\njump 5\njump 6\njump 7\njump 8\njump 9\njump 10\njump 11\njump 12\nhalt\n", api.OK, -1)
	asks(t, slices.Repeat([]api.Call{one}, 13), "", api.ErrLimit, -1)
	asks(t, slices.Repeat([]api.Call{none}, 13), "", api.ErrLimit, -1)
}

func TestBareIsOfCallsWithoutANumber(t *testing.T) {
	pieces := map[int]func(place int) []api.Ins{
		api.Once: func(place int) []api.Ins { return []api.Ins{{Op: api.Jump, A: place + 1}} },
		api.Down: func(int) []api.Ins { return []api.Ins{ask.WakeAll(0), ask.Tell(ask.Is)} },
	}
	down, one := api.Call{What: api.Down}, api.Call{What: api.Once}
	for _, x := range []struct {
		calls []api.Call
		text  string
		wrong api.Errno
		at    int
	}{
		{nil, "halt\n", api.OK, -1},
		{[]api.Call{down, one, one}, "wake 0 16 -1\nsay 3 2\njump 3\njump 4\nhalt\n", api.OK, -1},
		{[]api.Call{one, {What: api.Await}}, "", api.ErrArg, 1},
		{[]api.Call{{}, one}, "", api.ErrArg, 0},
		{[]api.Call{one, down, {What: api.Down, N: 1}, {}}, "", api.ErrArg, 2},
		{[]api.Call{{What: api.Once, N: -1}}, "", api.ErrArg, 0},
		{make([]api.Call, 13), "", api.ErrLimit, -1},
	} {
		p, err := ask.Bare(x.calls, pieces)
		if e, place := plain.Place(err); e != x.wrong || place != x.at {
			t.Errorf("%v: got error %d at %d, want %d at %d", x.calls, e, place, x.wrong, x.at)
		}
		if got, _ := code.Print(p); got != x.text {
			t.Errorf("%v: got %q, want %q", x.calls, got, x.text)
		}
	}
}

func TestPiecesAreOfAPlaceAndACell(t *testing.T) {
	for want, l := range map[string][]api.Ins{
		"load 1 0\nsame 1 0 9\nplus 2 1 -1\nswap 3 0 1 2\nsame 3 0 0\n":   ask.Lessen(0, 0, 9),
		"load 1 7\nsame 1 0 40\nplus 2 1 -1\nswap 3 7 1 2\nsame 3 0 30\n": ask.Lessen(30, 7, 40),
		"load 1 0\nsame 1 0 4\nwait 0 1\njump 0\n":                        ask.AwaitNought(0, 0),
		"load 1 7\nsame 1 0 34\nwait 7 1\njump 30\n":                      ask.AwaitNought(30, 7),
		"swap 3 2 6 4\nsame 3 0 25\n":                                     ask.Change(2, 6, 4, 25),
		"swap 3 0 1 2\nsame 3 0 7\n":                                      ask.Change(0, ask.Seen, ask.Is, 7),
		"wake 0 16 -1\n":                                                  {ask.WakeAll(0)},
		"wake 5 16 -1\n":                                                  {ask.WakeAll(5)},
		"say 3 1\n":                                                       {ask.Tell(ask.Seen)},
		"say 3 2\n":                                                       {ask.Tell(ask.Is)},
	} {
		if got, _ := code.Print(l); got != want {
			t.Errorf("got %q, want %q", got, want)
		}
	}
}
