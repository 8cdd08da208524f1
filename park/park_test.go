package park_test

import (
	"fmt"
	"math"
	"slices"
	"testing"

	"quadrille/api"
	"quadrille/park"
	"quadrille/plain"
)

// tells checks which Errno an error is, and that it has no place.
func tells(t *testing.T, name string, err error, want api.Errno) {
	t.Helper()
	if got, place := plain.Place(err); got != want || place != -1 {
		t.Errorf("%s: got error %d at %d, want %d without a place", name, got, place, want)
	}
}

// are checks which threads are told.
func are(t *testing.T, name string, got []int, want ...int) {
	t.Helper()
	if !slices.Equal(got, want) {
		t.Errorf("%s: got threads %v, want %v", name, got, want)
	}
}

// sleeps checks where a thread sleeps.
func sleeps(t *testing.T, p *park.Lot, thread, want int) {
	t.Helper()
	if got := p.Cell(thread); got != want {
		t.Errorf("thread %d: sleeps at %d, want %d", thread, got, want)
	}
}

// lot is a lot of n threads, of which some fall asleep at a cell, one behind the other.
func lot(t *testing.T, n, cell int, asleep ...int) *park.Lot {
	t.Helper()
	p, err := park.New(n)
	tells(t, "new", err, api.OK)
	for _, s := range asleep {
		tells(t, "sleep", p.Sleep(s, cell), api.OK)
	}
	return p
}

func TestNewHasSoManyThreadsNoneAsleep(t *testing.T) {
	for _, n := range []int{0, 1, 3, api.MaxThreads} {
		p := lot(t, n, 0)
		for thread := range n {
			sleeps(t, p, thread, -1)
			tells(t, "poke", p.Poke(thread), api.ErrState)
			tells(t, "sleep", p.Sleep(thread, thread), api.OK)
			sleeps(t, p, thread, thread)
		}
		tells(t, "one more", p.Sleep(n, 0), api.ErrRange)
	}
}

func TestNewIsFrom0ToMaxThreads(t *testing.T) {
	for _, n := range []int{math.MinInt, -1, api.MaxThreads + 1, math.MaxInt} {
		p, err := park.New(n)
		tells(t, fmt.Sprint("new ", n), err, api.ErrRange)
		if p != nil {
			t.Errorf("new %d: a lot beside an error", n)
		}
	}
}

func TestSleepIsOfAThreadThatThereIs(t *testing.T) {
	for _, n := range []int{0, 2, api.MaxThreads} {
		p := lot(t, n, 0)
		for _, thread := range []int{math.MinInt, -1, n, n + 1, math.MaxInt} {
			tells(t, "sleep", p.Sleep(thread, 0), api.ErrRange)
			sleeps(t, p, thread, -1)
		}
		are(t, "at", p.At(0))
	}
}

func TestSleepIsAtACellBelowMaxCells(t *testing.T) {
	p := lot(t, 2, 0)
	for _, cell := range []int{math.MinInt, -1, api.MaxCells, math.MaxInt} {
		tells(t, fmt.Sprint("sleep at ", cell), p.Sleep(0, cell), api.ErrRange)
		sleeps(t, p, 0, -1)
		are(t, fmt.Sprint("at ", cell), p.At(cell))
		are(t, fmt.Sprint("wake at ", cell), p.Wake(cell, 1))
	}
	tells(t, "first cell", p.Sleep(0, 0), api.OK)
	tells(t, "last cell", p.Sleep(1, api.MaxCells-1), api.OK)
	sleeps(t, p, 0, 0)
	sleeps(t, p, 1, api.MaxCells-1)
}

func TestSleepOfOneThatSleepsChangesNothing(t *testing.T) {
	p := lot(t, 2, 7, 0, 1)
	tells(t, "there", p.Sleep(0, 7), api.ErrState)
	tells(t, "elsewhere", p.Sleep(0, 8), api.ErrState)
	tells(t, "the range is told first", p.Sleep(0, api.MaxCells), api.ErrRange)
	are(t, "at 7", p.At(7), 0, 1)
	are(t, "at 8", p.At(8))
	sleeps(t, p, 0, 7)
}

func TestWakeIsOfTheFirstOnes(t *testing.T) {
	for _, c := range []struct {
		n           int
		woken, left []int
	}{
		{math.MinInt, nil, []int{2, 0, 3, 1}},
		{-1, nil, []int{2, 0, 3, 1}},
		{0, nil, []int{2, 0, 3, 1}},
		{1, []int{2}, []int{0, 3, 1}},
		{3, []int{2, 0, 3}, []int{1}},
		{4, []int{2, 0, 3, 1}, nil},
		{5, []int{2, 0, 3, 1}, nil},
		{math.MaxInt, []int{2, 0, 3, 1}, nil},
	} {
		p := lot(t, 4, 5, 2, 0, 3, 1)
		are(t, fmt.Sprint("wake ", c.n), p.Wake(5, c.n), c.woken...)
		are(t, fmt.Sprint("left of ", c.n), p.At(5), c.left...)
		for _, thread := range c.woken {
			sleeps(t, p, thread, -1)
			tells(t, "poke", p.Poke(thread), api.ErrState)
		}
	}
}

func TestWakeIsOfThatCellAlone(t *testing.T) {
	p := lot(t, 4, 5, 2, 0)
	tells(t, "sleep", p.Sleep(3, 6), api.OK)
	are(t, "nobody there", p.Wake(4, 9))
	are(t, "wake", p.Wake(6, 9), 3)
	are(t, "at 5", p.At(5), 2, 0)
}

func TestWhoIsWokenSleepsBehindAllOthersThen(t *testing.T) {
	p := lot(t, 3, 5, 0, 1, 2)
	are(t, "wake", p.Wake(5, 1), 0)
	tells(t, "sleep", p.Sleep(0, 5), api.OK)
	tells(t, "poke", p.Poke(1), api.OK)
	tells(t, "sleep", p.Sleep(1, 5), api.OK)
	are(t, "at", p.At(5), 2, 0, 1)
}

func TestPokeIsOfOneThatSleeps(t *testing.T) {
	p := lot(t, 4, 5, 2, 0, 1)
	tells(t, "awake", p.Poke(3), api.ErrState)
	for _, thread := range []int{math.MinInt, -1, 4, math.MaxInt} {
		tells(t, fmt.Sprint("poke ", thread), p.Poke(thread), api.ErrRange)
	}
	are(t, "at", p.At(5), 2, 0, 1)
	tells(t, "asleep", p.Poke(0), api.OK)
	sleeps(t, p, 0, -1)
	are(t, "at", p.At(5), 2, 1)
	tells(t, "again", p.Poke(0), api.ErrState)
}

func TestAllOfMaxThreadsSleepAtOneCell(t *testing.T) {
	var all []int
	for i := range api.MaxThreads {
		all = append(all, api.MaxThreads-1-i)
	}
	p := lot(t, api.MaxThreads, 0, all...)
	are(t, "at", p.At(0), all...)
	are(t, "wake", p.Wake(0, api.MaxThreads), all...)
	are(t, "at", p.At(0))
}

func TestWhatIsToldIsTheCallers(t *testing.T) {
	p := lot(t, 4, 5, 2, 0, 3, 1)
	at := p.At(5)
	at[0] = 9
	are(t, "at", p.At(5), 2, 0, 3, 1)
	woken := p.Wake(5, 2)
	_ = append(woken, 9, 9)
	woken[0] = 9
	are(t, "left", p.At(5), 3, 1)
	sleeps(t, p, 2, -1)
	kept := p.At(5)
	tells(t, "poke", p.Poke(3), api.OK)
	are(t, "at of before", kept, 3, 1)
}

// model is a lot as a list for each of two cells.
type model [2][]int

func (m *model) cell(thread int) int {
	for c, l := range m {
		if slices.Contains(l, thread) {
			return c
		}
	}
	return -1
}

// do does one of the calls to both, and compares what they tell.
func (m *model) do(t *testing.T, p *park.Lot, call int) {
	thread, cell, want := call/2%3, call%2, api.OK
	at := m.cell(thread)
	switch call / 6 {
	case 0:
		if at >= 0 {
			want = api.ErrState
		} else {
			m[cell] = append(slices.Clone(m[cell]), thread)
		}
		tells(t, "sleep", p.Sleep(thread, cell), want)
	case 1:
		n := min(thread, len(m[cell]))
		are(t, "wake", p.Wake(cell, thread), m[cell][:n]...)
		m[cell] = slices.Clone(m[cell][n:])
	case 2:
		if at < 0 {
			want = api.ErrState
		} else {
			m[at] = slices.DeleteFunc(slices.Clone(m[at]), func(x int) bool { return x == thread })
		}
		tells(t, "poke", p.Poke(thread), want)
	}
}

// TestAllShortSessions does all sessions of four calls behind three threads' falling asleep.
func TestAllShortSessions(t *testing.T) {
	const calls, long = 18, 4
	for session := range calls * calls * calls * calls {
		p, m := lot(t, 3, 1, 2, 0, 1), &model{1: {2, 0, 1}}
		rest := session
		for range long {
			m.do(t, p, rest%calls)
			rest /= calls
		}
		are(t, "at 0", p.At(0), m[0]...)
		are(t, "at 1", p.At(1), m[1]...)
		for thread := range 3 {
			sleeps(t, p, thread, m.cell(thread))
		}
		if t.Failed() {
			t.Fatalf("session %d", session)
		}
	}
}
