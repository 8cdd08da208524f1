package trial_test

import (
	"fmt"
	"slices"
	"strings"
	"testing"

	"quadrille/api"
	"quadrille/code"
	"quadrille/trial"
)

// text is that of calls of a kind that is made up: Trade has a number, and Once has none.
func text(c api.Call) string {
	switch {
	case c.What == api.Trade && c.N >= 0 && c.N <= 1000:
		return fmt.Sprintf("let 3 %d; same 3 7 p; jump p+3; say 3 3", c.N)
	case c == api.Call{What: api.Once}:
		return "wait 0 0; same 1 0 p+2; plus 1 1 1; say 3 1"
	}
	return ""
}

// asker makes programs of calls.
type asker func(l []api.Call) ([]api.Ins, error)

// made are the programs of that kind.
func made(l []api.Call) ([]api.Ins, error) {
	if len(l) > 12 {
		return nil, api.ErrLimit
	}
	s, n := "", 0
	for i, c := range l {
		if text(c) == "" {
			return nil, &api.At{Err: api.ErrArg, Place: i}
		}
		for _, line := range strings.Split(text(c), "; ") {
			for k := range 4 {
				line = strings.ReplaceAll(line, fmt.Sprintf(" p+%d", k), fmt.Sprint(" ", n+k))
			}
			s += strings.TrimSuffix(line, " p")
			if strings.HasSuffix(line, " p") {
				s += fmt.Sprint(" ", n)
			}
			s += "\n"
		}
		n += 4
	}
	return code.Parse(s + "halt\n")
}

// butAt answers another program, and another error, to one list.
func butAt(at []api.Call, l []api.Ins, err error) asker {
	return func(asked []api.Call) ([]api.Ins, error) {
		if slices.Equal(asked, at) {
			return l, err
		}
		return made(asked)
	}
}

// changed is that kind, with other instructions in the program of one list.
func changed(at []api.Call, change func(l []api.Ins)) asker {
	return func(asked []api.Call) ([]api.Ins, error) {
		l, err := made(asked)
		if slices.Equal(asked, at) {
			change(l)
		}
		return l, err
	}
}

// once and trade are calls.
var once, trade = api.Call{What: api.Once}, api.Call{What: api.Trade, N: 1000}

func TestPlacedIsOfTheBeginning(t *testing.T) {
	for _, x := range []struct {
		text  string
		place int
		want  string
	}{
		{"load 1 0; same 1 0 p+9; plus 2 1 -1; jump p; say 3 1", 0, "load 1 0; same 1 0 9; plus 2 1 -1; jump 0; say 3 1"},
		{"load 1 0; same 1 0 p+9; plus 2 1 -1; jump p; say 3 1", 21, "load 1 0; same 1 0 30; plus 2 1 -1; jump 21; say 3 1"},
		{"same 3 0 p+10; jump p", 5, "same 3 0 15; jump 5"},
		{"halt", 5, "halt"},
		{"", 5, ""},
	} {
		if got := trial.Placed(x.text, x.place); got != x.want {
			t.Errorf("%q at %d: got %q, want %q", x.text, x.place, got, x.want)
		}
	}
}

func TestTextsAreOfCallsWithoutANumber(t *testing.T) {
	of := trial.Texts(map[int]string{api.Down: "halt", api.Once: "jump p"})
	for c, want := range map[api.Call]string{{What: api.Down}: "halt", {What: api.Once}: "jump p", {What: api.Down, N: 1}: "", {What: api.Once, N: -1}: "", {}: "", {What: api.Await}: ""} {
		if got := of(c); got != want {
			t.Errorf("%v: got %q, want %q", c, got, want)
		}
	}
}

func TestFaceOfCallsThatHoldIsRight(t *testing.T) {
	if wrong := (trial.Calls{Code: made, Text: text}).Face(); wrong != "" {
		t.Error(wrong)
	}
}

func TestFaceFindsWrongCalls(t *testing.T) {
	long := slices.Repeat([]api.Call{{What: api.Trade}, {What: api.Trade, N: 1}, {What: api.Trade, N: 2}, trade, once}, 3)
	most, more := long[:12], long[:13]
	bad, worse := slices.Clone(most), slices.Clone(more)
	bad[7], worse[7] = api.Call{}, api.Call{}
	halt := []api.Ins{{Op: api.Halt}}
	at := func(e api.Errno, place int) error { return &api.At{Err: e, Place: place} }
	for k, x := range []struct {
		code asker
		want string
	}{
		{butAt(nil, nil, nil), "got\n"},
		{butAt(nil, append(halt, halt...), nil), "got\n"},
		{butAt([]api.Call{once}, halt, nil), "got\n"},
		{butAt([]api.Call{trade, once}, halt, nil), "got\n"},
		{butAt(most, halt, nil), "got\n"},
		{changed([]api.Call{once, trade}, func(l []api.Ins) { l[5].C = 0 }), "got\n"},
		{changed([]api.Call{once}, func(l []api.Ins) { l[0].D = 1 }), "got\n"},
		{butAt([]api.Call{once}, nil, api.ErrArg), "not error 0 at -1 of 18 0"},
		{butAt(most, nil, api.ErrLimit), "not error 0 at -1 of 5 0, 5 1, 5 2, 5 1000, 18 0, 5 0,"},
		{butAt(more, halt, nil), "not error 4 at -1 of"},
		{butAt(more, nil, at(api.ErrLimit, 12)), "not error 4 at -1 of"},
		{butAt(worse, nil, at(api.ErrArg, 7)), "not error 4 at -1 of"},
		{butAt(more, halt, api.ErrLimit), "an answer beside an error of"},
		{butAt([]api.Call{{What: api.Once, N: 1}}, halt, nil), "not error 1 at 0 of 18 1"},
		{butAt([]api.Call{{What: api.Trade, N: 1001}}, nil, api.ErrArg), "not error 1 at 0 of 5 1001"},
		{butAt([]api.Call{{}}, nil, at(api.ErrRange, 0)), "not error 1 at 0 of 0 0"},
		{butAt([]api.Call{once, {}}, nil, at(api.ErrArg, 0)), "not error 1 at 1 of 18 0, 0 0"},
		{butAt([]api.Call{{}, {}}, nil, at(api.ErrArg, 1)), "not error 1 at 0 of 0 0, 0 0"},
		{butAt(bad, nil, at(api.ErrArg, 8)), "not error 1 at 7 of"},
		{butAt([]api.Call{once, {}}, halt, at(api.ErrArg, 1)), "an answer beside an error of 18 0, 0 0"},
	} {
		if got := (trial.Calls{Code: x.code, Text: text}).Face(); !strings.HasPrefix(got, x.want) || got == "" {
			t.Errorf("%d: got %q, want %q", k, got, x.want)
		}
	}
}

func TestFaceFindsWhatIsKeptOrWritten(t *testing.T) {
	kept, _ := made([]api.Call{trade})
	if got := (trial.Calls{Code: butAt([]api.Call{trade}, kept, nil), Text: text}).Face(); got != "not the same once more of 5 1000" {
		t.Errorf("kept: got %q", got)
	}
	for name, write := range map[string]func(l []api.Call){
		"within": func(l []api.Call) { l[0] = trade },
		"behind": func(l []api.Call) { _ = append(l, trade) },
	} {
		code := func(l []api.Call) ([]api.Ins, error) {
			p, err := made(l)
			if len(l) == 2 && l[0] == once {
				write(l)
			}
			return p, err
		}
		if got := (trial.Calls{Code: code, Text: text}).Face(); !strings.HasPrefix(got, "written into of ") {
			t.Errorf("%s: got %q", name, got)
		}
	}
}

func TestFaceOfNoCalls(t *testing.T) {
	if got := (trial.Calls{Code: made, Text: trial.Texts(nil)}).Face(); got != "there is no call" {
		t.Errorf("got %q", got)
	}
}

func TestProgramsAreOfEachList(t *testing.T) {
	k := trial.Calls{Code: made, Text: text}
	lists := [][]api.Call{{once, trade}, nil, {trade}}
	p, err := k.Programs(lists)
	if err != nil || len(p) != 3 {
		t.Fatalf("got %v, %v", p, err)
	}
	for i, l := range lists {
		if want, _ := made(l); !slices.Equal(p[i], want) {
			t.Errorf("%v: got %v, want %v", l, p[i], want)
		}
	}
	if p, err := k.Programs([][]api.Call{{once}, {{}}}); p != nil || api.Tell(err) != api.ErrArg {
		t.Errorf("no call: got %v, %v", p, err)
	}
}

func TestNewIsOfEachListAndTheCells(t *testing.T) {
	k := trial.Calls{Code: made, Text: text}
	c, err := k.New([][]api.Call{{once}, nil, {trade}}, 0, 7)
	if err != nil || c.Threads() != 3 || !slices.Equal(c.Cells(), []uint64{0, 7}) {
		t.Fatalf("got %v, %v", c, err)
	}
	if wrong := trial.Walk(c, trial.Leg{Thread: 0, Steps: 1, Cells: "0 7", Asleep: "0"}, trial.Leg{Thread: 1, Steps: 1, Cells: "0 7", Asleep: "0"}); wrong != "" {
		t.Error(wrong)
	}
	if c, err := k.New([][]api.Call{{once}, {{}}}, 0); c != nil || api.Tell(err) != api.ErrArg {
		t.Errorf("no call: got %v, %v", c, err)
	}
	if c, err := k.New([][]api.Call{{once}}); c != nil || api.Tell(err) != api.ErrRange {
		t.Errorf("no cell: got %v, %v", c, err)
	}
}

func TestWholeIsOfAllInstructions(t *testing.T) {
	k := trial.Calls{Code: made, Text: text}
	whole := "wait 0 0; same 1 0 2; plus 1 1 1; say 3 1; let 3 1000; same 3 7 4; jump 7; say 3 3; halt"
	if wrong := k.Whole(whole, once, trade); wrong != "" {
		t.Error(wrong)
	}
	if wrong := k.Whole("halt"); wrong != "" {
		t.Error(wrong)
	}
	for _, x := range []struct {
		text  string
		calls []api.Call
		want  string
	}{
		{whole, []api.Call{trade, once}, "got\n"},
		{whole, []api.Call{once}, "got\n"},
		{whole, []api.Call{once, trade, trade}, "got\n"},
		{whole, nil, "got\n"},
		{whole + "; halt", []api.Call{once, trade}, "got\n"},
		{"halt;", nil, "no program: "},
		{"", nil, "no program: "},
		{whole, []api.Call{{}}, api.ErrArg.Error()},
	} {
		if got := k.Whole(x.text, x.calls...); !strings.HasPrefix(got, x.want) || got == "" {
			t.Errorf("%q, %v: got %q, want %q", x.text, x.calls, got, x.want)
		}
	}
}

func TestRoomIsJustWhatIsNeeded(t *testing.T) {
	k := trial.Calls{Code: made, Text: text}
	for _, x := range []struct {
		instructions, cells int
		calls               []api.Call
		want                string
	}{
		{5, 1, []api.Call{once}, ""},
		{9, 1, []api.Call{once, once}, ""},
		{9, 1, []api.Call{once}, "5 instructions"},
		{5, 0, []api.Call{once}, api.ErrRange.Error()},
		{5, 2, []api.Call{once}, "fewer cells do"},
		{1, 1, nil, "fewer cells do"},
		{5, 1, []api.Call{{}}, api.ErrArg.Error()},
	} {
		if got := k.Room(x.instructions, x.cells, x.calls...); got != x.want {
			t.Errorf("%v: got %q, want %q", x, got, x.want)
		}
	}
}
