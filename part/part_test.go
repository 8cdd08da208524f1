package part_test

import (
	"fmt"
	"math"
	"slices"
	"strings"
	"testing"

	"quadrille/api"
	"quadrille/code"
	"quadrille/core"
	"quadrille/part"
	"quadrille/plain"
)

// prints checks what instructions look like, with semicolons between.
func prints(t *testing.T, name string, l []api.Ins, want string) {
	t.Helper()
	s, err := code.Print(l)
	if err != nil {
		t.Fatalf("%s: %v", name, err)
	}
	if s = strings.ReplaceAll(strings.TrimSuffix(s, "\n"), "\n", "; "); s != want {
		t.Errorf("%s: got\n%s, want\n%s", name, s, want)
	}
	unnamed(t, name, l)
}

// unnamed checks that what a line doesn't name is 0: then the text tells all.
func unnamed(t *testing.T, name string, l []api.Ins) {
	t.Helper()
	s, _ := code.Print(l)
	if back, err := code.Parse(s); err != nil || !slices.Equal(back, l) {
		t.Errorf("%s: got %v, want %v (%v)", name, l, back, err)
	}
}

// program is the program of lines that are told in one, by semicolons.
func program(t *testing.T, s string) []api.Ins {
	t.Helper()
	p, err := code.Parse(strings.ReplaceAll(s, "; ", "\n") + "\n")
	if err != nil {
		t.Fatalf("%q: %v", s, err)
	}
	return p
}

// machine is one of programs on cells.
func machine(t *testing.T, cells []uint64, programs ...[]api.Ins) *core.Core {
	t.Helper()
	c, err := core.New(programs, cells)
	if err != nil {
		t.Fatal(err)
	}
	return c
}

func TestAwaitStandsAtAPlace(t *testing.T) {
	for place := range api.MaxIns + 1 {
		for _, cell := range []int{0, 1, 7, api.MaxCells - 1} {
			want := fmt.Sprintf("load 1 %d; less 1 0 %d; jump %d; wait %d 1; jump %d", cell, place+3, place+5, cell, place)
			prints(t, fmt.Sprint("await ", place, cell), part.Await(place, cell), want)
		}
	}
	prints(t, "first", part.Await(0, 0), "load 1 0; less 1 0 3; jump 5; wait 0 1; jump 0")
	prints(t, "last", part.Await(api.MaxIns, 299), "load 1 299; less 1 0 603; jump 605; wait 299 1; jump 600")
	prints(t, "no cell", part.Await(5, -3), "load 1 -3; less 1 0 8; jump 10; wait -3 1; jump 5")
}

func TestTellIsOfACellAndSoMany(t *testing.T) {
	for _, cell := range []int{math.MinInt, -1, 0, 1, 7, api.MaxCells - 1, api.MaxCells, math.MaxInt} {
		for _, n := range []int{math.MinInt, -1, 0, 1, 2, api.MaxThreads, math.MaxInt} {
			prints(t, "tell", part.Tell(cell, n), fmt.Sprintf("store %d 0 -1; wake %d %d -1", cell, cell, n))
		}
	}
}

func TestWholeGoesAroundItsBody(t *testing.T) {
	bodies := []string{"", "halt", "copy 3 0", "load 1 2; less 1 0 8; jump 10; wait 2 1; jump 5", strings.Repeat("plus 6 6 1; ", 591) + "jump 5"}
	for rounds := range api.MaxRounds + 1 {
		for _, s := range bodies {
			var body []api.Ins
			between := ""
			if s != "" {
				body, between = program(t, s), s+"; "
			}
			want := fmt.Sprintf("let 0 1; let 7 %d; less 0 7 4; halt; say 1 0; %ssay 2 0; plus 0 0 1; jump 2", rounds+1, between)
			l := part.Whole(rounds, body)
			prints(t, "whole", l, want)
			if err := code.Right(l, 3); err != nil {
				t.Errorf("whole of %d and %q: %v", rounds, s, err)
			}
		}
	}
	prints(t, "an empty body", part.Whole(2, []api.Ins{}), "let 0 1; let 7 3; less 0 7 4; halt; say 1 0; say 2 0; plus 0 0 1; jump 2")
}

func TestWholeTakesAnyBody(t *testing.T) {
	odd := []api.Ins{{Op: -1, A: 1, B: 2, C: 3, D: 4}, {Op: api.Ops}, {Op: api.Halt, D: 9}}
	l := part.Whole(1, odd)
	if len(l) != api.Ahead+3+3 || !slices.Equal(l[api.Ahead:api.Ahead+3], odd) {
		t.Errorf("got %v", l)
	}
	if l := part.Whole(1, make([]api.Ins, 100_000)); len(l) != 100_008 {
		t.Errorf("long: got %d", len(l))
	}
}

func TestWholeLeavesItsBodyAlone(t *testing.T) {
	memory := program(t, "copy 3 0; copy 4 0; copy 5 0; copy 6 0; copy 1 0; copy 2 0; copy 1 2; copy 2 1")
	was := slices.Clone(memory)
	l := part.Whole(3, memory[:2])
	for k := range l {
		l[k] = api.Ins{Op: api.Say}
	}
	if !slices.Equal(memory, was) {
		t.Errorf("got %v, want %v", memory, was)
	}
	l = part.Whole(3, memory[:2])
	memory[0] = api.Ins{Op: api.Halt}
	prints(t, "kept", l, "let 0 1; let 7 4; less 0 7 4; halt; say 1 0; copy 3 0; copy 4 0; say 2 0; plus 0 0 1; jump 2")
}

func TestPiecesAreFresh(t *testing.T) {
	for name, piece := range map[string]func() []api.Ins{
		"await": func() []api.Ins { return part.Await(3, 1) },
		"tell":  func() []api.Ins { return part.Tell(2, 4) },
		"whole": func() []api.Ins { return part.Whole(2, nil) },
		"meet":  func() []api.Ins { return part.Meet(5, 0, 2, 17) },
		"open":  func() []api.Ins { return part.Open(0, 2) },
	} {
		first, want := piece(), piece()
		for k := range first {
			first[k] = api.Ins{Op: -1}
		}
		_ = append(first[:1], api.Ins{Op: -2})
		if got := piece(); !slices.Equal(got, want) {
			t.Errorf("%s: got %v, want %v", name, got, want)
		}
	}
}

func TestPiecesTakeAnyNumbers(t *testing.T) {
	odd := []int{math.MinInt, math.MinInt + 1, -1, 0, api.MaxIns + 1, math.MaxInt - 1, math.MaxInt}
	for _, a := range odd {
		for _, b := range odd {
			part.Await(a, b)
			part.Tell(a, b)
			part.Whole(a, nil)
			part.Meet(a, b, a, b)
			part.Open(a, b)
		}
	}
}

func TestMeetAndOpenAreOfACellAndItsGate(t *testing.T) {
	prints(t, "meet", part.Meet(5, 0, 3, 17), "fetch 1 0 1; same 1 2 13; load 1 1; less 1 0 10; jump 12; wait 1 1; jump 7; jump 17")
	prints(t, "another", part.Meet(21, 6, 2, 40), "fetch 1 6 1; same 1 1 29; load 1 7; less 1 0 26; jump 28; wait 7 1; jump 23; jump 40")
	prints(t, "open", part.Open(0, 3), "let 2 0; store 0 2 -1; store 1 0 -1; wake 1 3 -1")
	prints(t, "another", part.Open(6, 2), "let 2 0; store 6 2 -1; store 7 0 -1; wake 7 2 -1")
	if l := part.Meet(5, 0, 3, 17); len(l) != part.Met {
		t.Errorf("meet: %d", len(l))
	}
	if l := part.Open(0, 3); len(l) != part.Opened {
		t.Errorf("open: %d", len(l))
	}
}

// waits is a thread that awaits that cell 0 is a number, with other instructions ahead, and says so then.
func waits(t *testing.T, ahead int, till string) []api.Ins {
	t.Helper()
	l := program(t, "let 0 "+till)
	for len(l) < ahead {
		l = append(l, api.Ins{Op: api.Copy, A: 3, B: 3})
	}
	l = append(l, part.Await(len(l), 0)...)
	return append(l, program(t, "say 9 0; halt")...)
}

func TestAwaitGoesOnOnlyWhereTheCellIsNoLess(t *testing.T) {
	for _, ahead := range []int{1, 2, 40, api.MaxIns - 7} {
		for _, one := range []struct {
			till string
			is   uint64
			goes bool
		}{{"0", 0, true}, {"1", 0, false}, {"1", 1, true}, {"1", 2, true}, {"7", 6, false}, {"7", 7, true}, {"7", math.MaxUint64, true}, {"-1", math.MaxUint64 - 1, false}, {"-1", math.MaxUint64, true}} {
			c := machine(t, []uint64{one.is}, waits(t, ahead, one.till))
			c.Run(make([]int, 1000))
			all, stuck := c.Ends()
			if all != one.goes || stuck == one.goes || len(c.Events()) == 1 != one.goes {
				t.Errorf("%d ahead, till %s of %d: got %t %t %v", ahead, one.till, one.is, all, stuck, c.Events())
			}
		}
	}
}

func TestWhoIsWokenForNothingAwaitsAgain(t *testing.T) {
	c := machine(t, []uint64{0}, waits(t, 1, "1"), append(append(program(t, "let 0 1"), part.Tell(0, 1)...), api.Ins{Op: api.Halt}))
	for range 5 {
		if n := c.Run(make([]int, 100)); n < 4 || c.Poke(0) != nil {
			t.Fatalf("did %d steps, and doesn't sleep", n)
		}
	}
	c.Run([]int{0, 0, 0, 0, 0, 0, 0, 0, 1, 1, 1, 1, 0, 0, 0, 0, 0, 0})
	if all, _ := c.Ends(); !all || len(c.Events()) != 1 {
		t.Errorf("got %t %v", all, c.Events())
	}
}

func TestTellWakesSoMany(t *testing.T) {
	for n := range 5 {
		teller := append(append(program(t, "let 0 1"), part.Tell(0, n)...), api.Ins{Op: api.Halt})
		c := machine(t, []uint64{0}, waits(t, 1, "1"), waits(t, 1, "1"), waits(t, 1, "1"), teller)
		for _, k := range []int{2, 0, 1, 3} {
			c.Run(slices.Repeat([]int{k}, 100))
		}
		woken := ""
		for k := range 3 {
			if c.Can(k) {
				woken += fmt.Sprint(k)
			}
		}
		if want := []string{"", "2", "02", "012", "012"}[n]; woken != want || c.Cells()[0] != 1 {
			t.Errorf("of %d: woke %q, and the cell is %v; want %q", n, woken, c.Cells(), want)
		}
	}
}

func TestWholeSaysEachRound(t *testing.T) {
	for rounds := range api.MaxRounds + 1 {
		for _, body := range []string{"", "fetch 3 0 1; store 1 0 -1"} {
			var l []api.Ins
			if body != "" {
				l = program(t, body)
			}
			c := machine(t, make([]uint64, 2), part.Whole(rounds, l))
			c.Run(make([]int, 1000))
			var said []string
			for r := range rounds {
				said = append(said, fmt.Sprint(api.Came, r+1), fmt.Sprint(api.Gone, r+1))
			}
			var got []string
			for _, e := range c.Events() {
				got = append(got, fmt.Sprint(e.What, e.Value))
			}
			if all, _ := c.Ends(); !all || !slices.Equal(got, said) || c.Steps() != 4+rounds*(5+len(l)) {
				t.Errorf("%d rounds of %q: got %t %v in %d steps", rounds, body, all, got, c.Steps())
			}
			if l != nil && fmt.Sprint(c.Cells()) != fmt.Sprint([]int{rounds, rounds}) {
				t.Errorf("%d rounds of %q: cells are %v", rounds, body, c.Cells())
			}
		}
	}
}

func TestCheckIsOfAParty(t *testing.T) {
	var numbers []int
	for k := -3; k <= 25; k++ {
		numbers = append(numbers, k)
	}
	numbers = append(numbers, math.MinInt, math.MinInt+1, math.MaxInt-1, math.MaxInt)
	for _, n := range numbers {
		for _, id := range numbers {
			for _, rounds := range numbers {
				want := api.ErrRange
				if n > 0 && n <= 16 && id >= 0 && id < n && rounds >= 0 && rounds <= 20 {
					want = api.OK
				}
				err := part.Check(n, id, rounds)
				if got, place := plain.Place(err); got != want || place != -1 {
					t.Fatalf("check %d %d %d: got error %d at %d, want %d without a place", n, id, rounds, got, place, want)
				}
			}
		}
	}
}

func TestCheckHasEachEdge(t *testing.T) {
	for _, one := range []struct {
		n, id, rounds int
		want          api.Errno
	}{
		{1, 0, 0, api.OK}, {1, 0, 20, api.OK}, {16, 0, 0, api.OK}, {16, 15, 20, api.OK},
		{0, 0, 0, api.ErrRange}, {17, 0, 0, api.ErrRange}, {17, 16, 20, api.ErrRange}, {-1, -1, 0, api.ErrRange},
		{1, 1, 0, api.ErrRange}, {1, -1, 0, api.ErrRange}, {16, 16, 20, api.ErrRange},
		{1, 0, -1, api.ErrRange}, {16, 15, 21, api.ErrRange}, {0, -1, 21, api.ErrRange},
	} {
		if got := api.Tell(part.Check(one.n, one.id, one.rounds)); got != one.want {
			t.Errorf("check %v: got error %d", one, got)
		}
	}
}

func TestLevelsDoubleToNoLess(t *testing.T) {
	for n := -3; n <= 5000; n++ {
		want := 0
		for 1<<want < n {
			want++
		}
		if got := part.Levels(n); got != want {
			t.Errorf("levels of %d: got %d, want %d", n, got, want)
		}
	}
	for l := range 41 {
		two := 1 << l
		if got := part.Levels(two); got != l {
			t.Errorf("levels of 2^%d: got %d", l, got)
		}
		if got := part.Levels(two + 1); l < 40 && got != l+1 {
			t.Errorf("levels of 2^%d and 1: got %d", l, got)
		}
		if got := part.Levels(two - 1); l > 1 && got != l {
			t.Errorf("levels of 2^%d less 1: got %d", l, got)
		}
	}
	for _, n := range []int{math.MinInt, math.MinInt + 1, -1 << 40, -1, 0, 1} {
		if got := part.Levels(n); got != 0 {
			t.Errorf("levels of %d: got %d", n, got)
		}
	}
	part.Levels(math.MaxInt)
}
