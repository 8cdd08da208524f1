package trade_test

import (
	"fmt"
	"math"
	"math/rand"
	"slices"
	"strconv"
	"strings"
	"testing"

	"quadrille/api"
	"quadrille/code"
	"quadrille/core"
	"quadrille/plain"
	"quadrille/trade"
	"quadrille/trial"
)

// text is how the document writes a Trade.
const text = "let 4 N+1; let 5 MINE+65536(N+1); load 1 0; same 1 0 p+12; let 2 0; swap 3 0 1 2; same 3 0 p+2; field 6 1 0 16; store 0 4 6; wake 0 1 6; field 2 1 16 16; jump p+21; " +
	"swap 3 0 1 5; same 3 0 p+2; load 2 MINE; same 2 0 p+17; jump p+19; wait MINE 2; jump p+14; let 3 0; store MINE 3 -1; plus 2 2 -1; say 3 2"

// kind is how a thread's programs are made, and how the document writes its calls.
func kind(id int) trial.Calls {
	return trial.Calls{
		Code: func(l []api.Call) ([]api.Ins, error) { return trade.Code(id, l) },
		Text: func(c api.Call) string {
			if c.What != api.Trade || c.N < 0 || c.N > 1000 {
				return ""
			}
			mine := id + 1
			return strings.NewReplacer("MINE+65536(N+1)", strconv.Itoa(mine+65536*(c.N+1)), "N+1", strconv.Itoa(c.N+1), "MINE", strconv.Itoa(mine)).Replace(text)
		},
	}
}

// give is a list of Trades.
func give(numbers ...int) []api.Call {
	var l []api.Call
	for _, n := range numbers {
		l = append(l, api.Call{What: api.Trade, N: n})
	}
	return l
}

func TestFace(t *testing.T) {
	for _, id := range []int{0, 1, 15} {
		if wrong := kind(id).Face(); wrong != "" {
			t.Errorf("thread %d: %s", id, wrong)
		}
	}
}

func TestCodeOfEachThreadAndNumber(t *testing.T) {
	for id := range api.MaxThreads {
		k := kind(id)
		for n := -2; n <= 1002; n++ {
			if wrong := k.Has(give(n)...); wrong != "" {
				t.Fatalf("thread %d: %s", id, wrong)
			}
		}
		if wrong := k.Has(give(0, 1000, 7, 7, 500, 1, 2, 3, 4, 5, 999, 6)...); wrong != "" {
			t.Fatalf("thread %d: %s", id, wrong)
		}
	}
}

func TestCodeOfNoneOneAndTwo(t *testing.T) {
	for _, x := range []struct {
		id    int
		calls []api.Call
		text  string
	}{
		{0, nil, "halt\n"},
		{15, give(), "halt\n"},
		{2, give(7), "let 4 8\nlet 5 524291\nload 1 0\nsame 1 0 12\nlet 2 0\nswap 3 0 1 2\nsame 3 0 2\nfield 6 1 0 16\nstore 0 4 6\nwake 0 1 6\nfield 2 1 16 16\njump 21\n" +
			"swap 3 0 1 5\nsame 3 0 2\nload 2 3\nsame 2 0 17\njump 19\nwait 3 2\njump 14\nlet 3 0\nstore 3 3 -1\nplus 2 2 -1\nsay 3 2\nhalt\n"},
		{15, give(0, 1000), "let 4 1\nlet 5 65552\nload 1 0\nsame 1 0 12\nlet 2 0\nswap 3 0 1 2\nsame 3 0 2\nfield 6 1 0 16\nstore 0 4 6\nwake 0 1 6\nfield 2 1 16 16\njump 21\n" +
			"swap 3 0 1 5\nsame 3 0 2\nload 2 16\nsame 2 0 17\njump 19\nwait 16 2\njump 14\nlet 3 0\nstore 16 3 -1\nplus 2 2 -1\nsay 3 2\n" +
			"let 4 1001\nlet 5 65601552\nload 1 0\nsame 1 0 35\nlet 2 0\nswap 3 0 1 2\nsame 3 0 25\nfield 6 1 0 16\nstore 0 4 6\nwake 0 1 6\nfield 2 1 16 16\njump 44\n" +
			"swap 3 0 1 5\nsame 3 0 25\nload 2 16\nsame 2 0 40\njump 42\nwait 16 2\njump 37\nlet 3 0\nstore 16 3 -1\nplus 2 2 -1\nsay 3 2\nhalt\n"},
	} {
		p, err := trade.Code(x.id, x.calls)
		if got, _ := code.Print(p); got != x.text || err != nil {
			t.Errorf("%d, %v: got %q, %v", x.id, x.calls, got, err)
		}
	}
}

func TestCodeTellsOfTheThreadAheadOfItsCalls(t *testing.T) {
	for _, id := range []int{math.MinInt, math.MinInt + 1, -2, -1, 16, 17, 1 << 16, 1 << 32, math.MaxInt - 1, math.MaxInt} {
		for _, l := range [][]api.Call{nil, give(0), give(1, 1001), make([]api.Call, 13)} {
			p, err := trade.Code(id, l)
			if e, place := plain.Place(err); e != api.ErrRange || place != -1 || len(p) != 0 {
				t.Errorf("%d, %v: got error %d at %d, %v", id, l, e, place, p)
			}
		}
	}
}

func TestCodeIsOfSlotsCells(t *testing.T) {
	var programs [][]api.Ins
	for id := range api.MaxThreads {
		p, err := trade.Code(id, slices.Repeat(give(1000), api.MaxCalls))
		if err != nil || len(p) != 277 {
			t.Fatalf("%d: got %d instructions, %v", id, len(p), err)
		}
		programs = append(programs, p)
	}
	if _, err := core.New(programs, make([]uint64, api.Slots)); err != nil {
		t.Error(err)
	}
}

// met are threads that trade these numbers.
type met [][]int

// calls are those of all threads.
func (x met) calls() [][]api.Call {
	var l [][]api.Call
	for _, numbers := range x {
		l = append(l, give(numbers...))
	}
	return l
}

// machine is what is tried of them.
func (x met) machine(t *testing.T, now, last func(c *core.Core) string) trial.Machine {
	t.Helper()
	m := trial.Machine{Cells: make([]uint64, api.Slots), Now: now, Last: last}
	for id, l := range x.calls() {
		p, err := trade.Code(id, l)
		if err != nil {
			t.Fatalf("%v: %v", x, err)
		}
		m.Programs = append(m.Programs, p)
	}
	return m
}

// place is a thread's call.
type place struct{ thread, call int }

// each is the place of each number, which nobody else has.
func (x met) each() map[int]place {
	m := map[int]place{}
	for thread, numbers := range x {
		for call, n := range numbers {
			m[n] = place{thread, call}
		}
	}
	return m
}

// now tells what is wrong wherever it stands, if no number is there twice: what a call is answered another thread had, who has come to that call; nobody else is answered that; and if that call is answered, then what the first one had.
func (x met) now(c *core.Core) string {
	l := trial.Answers(c, x.calls())
	if len(l) == 0 || l[len(l)-1].When != c.Steps() {
		return ""
	}
	places, answers := x.each(), map[place]int{}
	come := make([]int, len(x))
	for _, a := range l {
		answers[place{a.Thread, come[a.Thread]}] = a.Value
		come[a.Thread]++
	}
	had := map[int]bool{}
	for p, value := range answers {
		other, ok := places[value]
		back, answered := answers[other]
		switch {
		case !ok:
			return "nobody had that"
		case other.thread == p.thread:
			return "it has what it had itself"
		case other.call > come[other.thread]:
			return "it has what another one didn't give yet"
		case had[value]:
			return "two have what one had"
		case answered && back != x[p.thread][p.call]:
			return "what one has isn't had by it"
		}
		had[value] = true
	}
	return ""
}

// last tells what is wrong where nobody goes on any more: at most one isn't at its end, who sleeps, and nothing is left behind but its offer.
func (x met) last(c *core.Core) string {
	answered := make([]int, len(x))
	for _, a := range trial.Answers(c, x.calls()) {
		answered[a.Thread]++
	}
	cells, alone := make([]uint64, api.Slots), 0
	for k, numbers := range x {
		_, cell, err := c.At(k)
		switch {
		case (err != nil) != (answered[k] == len(numbers)):
			return fmt.Sprintf("thread %d is answered %d times at its end", k, answered[k])
		case err != nil:
			continue
		case cell != k+1:
			return fmt.Sprintf("thread %d doesn't sleep where it is given something", k)
		}
		alone++
		cells[0] = uint64(k + 1 + 65536*(numbers[answered[k]]+1))
	}
	if alone > 1 {
		return "two wait, who may trade"
	}
	if got := c.Cells(); !slices.Equal(got, cells) {
		return fmt.Sprintf("cells are %v, not %v", got, cells)
	}
	return ""
}

func TestWhoHasWhatAnotherHadIsHadByItInAnyOrder(t *testing.T) {
	for _, x := range []met{
		{{5}},
		{{0}, {1000}},
		{{1, 2}, {3, 4}},
		{{1, 2, 3}, {4, 5}},
		{{1, 2}, {}, {3, 4}},
		{{1}, {2}, {3}},
		{{1}, {2}, {3, 4}},
	} {
		if n, wrong := x.machine(t, x.now, x.last).All(); wrong != "" {
			t.Errorf("%v: %s, in the last one of %d states", x, wrong, n)
		}
	}
}

// own is a number that a thread alone has; and, of such a number, the thread.
func own(thread int) int { return 1000 - thread }

// owns are threads, each of which trades its own number so many times. So what is offered once more looks as it did before.
func owns(times ...int) met {
	var x met
	for thread, n := range times {
		x = append(x, slices.Repeat([]int{own(thread)}, n))
	}
	return x
}

// owned tells what is wrong with such threads where nobody goes on any more: as often as one has another one's number that one has its.
func (x met) owned(c *core.Core) string {
	var times [api.MaxThreads][api.MaxThreads]int
	for _, a := range trial.Answers(c, x.calls()) {
		other := own(a.Value)
		if other < 0 || other >= len(x) || other == a.Thread {
			return "no other one's number"
		}
		times[a.Thread][other]++
	}
	for a := range x {
		for b := range x {
			if times[a][b] != times[b][a] {
				return fmt.Sprintf("%d has what %d had %d times, which has what it had %d times", a, b, times[a][b], times[b][a])
			}
		}
	}
	return x.last(c)
}

// nothing is wrong with numbers that are there more than once, till nobody goes on.
func nothing(c *core.Core) string { return "" }

func TestOffersThatLookTheSameAreTraded(t *testing.T) {
	for _, x := range []met{owns(2, 2), owns(3, 2), owns(2, 1, 1), owns(2, 2, 1)} {
		if n, wrong := x.machine(t, nothing, x.owned).All(); wrong != "" {
			t.Errorf("%v: %s, in the last one of %d states", x, wrong, n)
		}
	}
}

func TestWhoHasWhatAnotherHadIsHadByItOfMany(t *testing.T) {
	random := rand.New(rand.NewSource(1))
	for range 200 {
		numbers := random.Perm(1001)
		var x met
		var times []int
		for k := range 1 + random.Intn(api.MaxThreads) {
			times = append(times, random.Intn(api.MaxCalls+1))
			x = append(x, numbers[:times[k]])
			numbers = numbers[times[k]:]
		}
		if wrong := x.machine(t, x.now, x.last).Some(random.Intn); wrong != "" {
			t.Errorf("%v: %s", x, wrong)
		}
		same := owns(times...)
		if wrong := same.machine(t, nothing, same.owned).Some(random.Intn); wrong != "" {
			t.Errorf("%v: %s", same, wrong)
		}
	}
}

// start is a machine of those threads, at first.
func (x met) start(t *testing.T) *core.Core {
	t.Helper()
	m := x.machine(t, nothing, nothing)
	c, err := core.New(m.Programs, m.Cells)
	if err != nil {
		t.Fatal(err)
	}
	return c
}

// picks are a thread's, so many.
func picks(thread, n int) []int { return slices.Repeat([]int{thread}, n) }

func TestWhoComesFirstSleepsTillSomethingIsGiven(t *testing.T) {
	c := met{{5}, {9}}.start(t)
	// Of the steps of one who comes first the ninth one is its sleep.
	if n := c.Run(picks(0, 20)); n != 9 {
		t.Errorf("%d steps ahead of sleep", n)
	}
	if at, cell, err := c.At(0); at != 18 || cell != 1 || err != nil {
		t.Errorf("thread 0 is at %d, sleeps at %d: %v", at, cell, err)
	}
	if got := c.Cells()[:3]; fmt.Sprint(got) != "[393217 0 0]" {
		t.Errorf("offered: %v", got)
	}
	// Who takes the offer gives, wakes, and says what it has, without any sleep.
	if n := c.Run(picks(1, 8)); n != 8 || c.Can(0) {
		t.Errorf("%d steps, and 0 is awake: %t", n, c.Can(0))
	}
	if got := c.Cells()[:3]; fmt.Sprint(got) != "[0 0 0]" {
		t.Errorf("taken: %v", got)
	}
	c.Run(picks(1, 1))
	if got := c.Cells()[:3]; fmt.Sprint(got) != "[0 10 0]" || c.Can(0) {
		t.Errorf("given: %v, and 0 is awake: %t", got, c.Can(0))
	}
	c.Run(picks(1, 1))
	if !c.Can(0) {
		t.Error("0 isn't woken")
	}
	c.Run(append(picks(1, 20), picks(0, 20)...))
	ends(t, c, "[{23 3 1 5} {32 3 0 9}]")
}

// ends checks what was said, and that nothing is left behind in the end.
func ends(t *testing.T, c *core.Core, said string) {
	t.Helper()
	if got := fmt.Sprint(c.Events()); got != said {
		t.Errorf("said: got %s, want %s", got, said)
	}
	if all, _ := c.Ends(); !all || !slices.Equal(c.Cells(), make([]uint64, api.Slots)) {
		t.Errorf("all are at their ends: %t; %v", all, c.Cells())
	}
}

func TestWhoseOfferIsGoneLooksAgain(t *testing.T) {
	c := met{{5}, {6}, {7}, {8}}.start(t)
	// 0 leaves an offer, which 1 sees, and 2 takes: so 1 leaves its own one, which 3 takes.
	c.Run(picks(0, 9))
	c.Run(picks(1, 5))
	c.Run(picks(2, 15))
	c.Run(picks(1, 2))
	if at, _, err := c.At(1); at != 2 || err != nil {
		t.Errorf("thread 1 is at %d: %v", at, err)
	}
	c.Run(append(picks(1, 20), picks(3, 20)...))
	c.Run(append(picks(0, 20), picks(1, 20)...))
	ends(t, c, "[{28 3 2 5} {52 3 3 6} {61 3 0 7} {70 3 1 8}]")
}

func TestWhoFindsAnOfferWhereNoneWasTakesIt(t *testing.T) {
	c := met{{5}, {6}}.start(t)
	// Both see none; 0 is faster, so that 1 looks again.
	c.Run(append(picks(0, 4), picks(1, 4)...))
	c.Run(append(picks(0, 2), picks(1, 2)...))
	if at, _, err := c.At(1); at != 2 || err != nil {
		t.Errorf("thread 1 is at %d: %v", at, err)
	}
	c.Run(append(picks(1, 20), picks(0, 20)...))
	ends(t, c, "[{24 3 1 5} {32 3 0 6}]")
}

func TestALateWakeIsOfNoMatter(t *testing.T) {
	c := met{{5, 6}, {7}, {8}}.start(t)
	// 1 takes the offer of 0, and gives; 0 sees it without any sleep, leaves another one, and sleeps when 1 wakes.
	c.Run(append(picks(0, 6), picks(1, 9)...))
	c.Run(picks(0, 30))
	if at, cell, err := c.At(0); at != 41 || cell != 1 || err != nil {
		t.Errorf("thread 0 is at %d, sleeps at %d: %v", at, cell, err)
	}
	c.Run(picks(1, 1))
	if !c.Can(0) {
		t.Error("0 isn't woken")
	}
	if n := c.Run(picks(0, 20)); n != 4 || c.Can(0) {
		t.Errorf("0 doesn't sleep again behind %d steps", n)
	}
	c.Run(append(picks(1, 20), picks(2, 20)...))
	c.Run(picks(0, 20))
	ends(t, c, "[{22 3 0 7} {40 3 1 5} {55 3 2 6} {64 3 0 8}]")
}
