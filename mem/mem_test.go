package mem_test

import (
	"fmt"
	"math"
	"slices"
	"testing"

	"quadrille/api"
	"quadrille/mem"
	"quadrille/plain"
)

const most = math.MaxUint64

// tells checks which Errno an error is, and that it has no place.
func tells(t *testing.T, name string, err error, want api.Errno) {
	t.Helper()
	if got, place := plain.Place(err); got != want || place != -1 {
		t.Errorf("%s: got error %d at %d, want %d without a place", name, got, place, want)
	}
}

// has checks what all cells have.
func has(t *testing.T, name string, m *mem.Memory, want ...uint64) {
	t.Helper()
	if got := m.Words(); !slices.Equal(got, want) {
		t.Errorf("%s: got cells %v, want %v", name, got, want)
	}
}

// of is a memory of cells that there may be.
func of(t *testing.T, l ...uint64) *mem.Memory {
	t.Helper()
	m, err := mem.Of(l)
	tells(t, "of", err, api.OK)
	return m
}

func TestNewHasSoManyCellsAll0(t *testing.T) {
	for _, n := range []int{0, 1, 2, 299, api.MaxCells} {
		m, err := mem.New(n)
		tells(t, fmt.Sprint("new ", n), err, api.OK)
		has(t, fmt.Sprint("new ", n), m, make([]uint64, n)...)
	}
}

func TestNewIsFrom0ToMaxCells(t *testing.T) {
	for _, n := range []int{math.MinInt, -1, api.MaxCells + 1, math.MaxInt} {
		m, err := mem.New(n)
		tells(t, fmt.Sprint("new ", n), err, api.ErrRange)
		if m != nil {
			t.Errorf("new %d: a memory beside an error", n)
		}
	}
}

func TestOfHasTheCellsOfTheList(t *testing.T) {
	has(t, "three", of(t, 7, 0, most), 7, 0, most)
	has(t, "none", of(t))
	full := make([]uint64, api.MaxCells)
	for i := range full {
		full[i] = uint64(i * i)
	}
	has(t, "full", of(t, full...), full...)
}

func TestOfIsAtMostMaxCells(t *testing.T) {
	m, err := mem.Of(make([]uint64, api.MaxCells+1))
	tells(t, "of", err, api.ErrLimit)
	if m != nil {
		t.Error("of: a memory beside an error")
	}
}

func TestOfNeitherKeepsNorChangesTheList(t *testing.T) {
	behind := []uint64{1, 2, 3}
	m := of(t, behind[:2]...)
	tells(t, "store", m.Store(0, 9), api.OK)
	if !slices.Equal(behind, []uint64{1, 2, 3}) {
		t.Errorf("the list was changed to %v", behind)
	}
	behind[1] = 8
	has(t, "the list changes", m, 9, 2)
}

func TestLoadIsWhatTheCellHas(t *testing.T) {
	m := of(t, 7, most)
	for at, want := range []uint64{7, most} {
		x, err := m.Load(at)
		tells(t, "load", err, api.OK)
		if x != want {
			t.Errorf("load %d: got %d, want %d", at, x, want)
		}
	}
	has(t, "loads change nothing", m, 7, most)
}

func TestStoreIsOfThatCellAlone(t *testing.T) {
	m := of(t, 1, 2, 3)
	tells(t, "store", m.Store(1, most), api.OK)
	has(t, "store", m, 1, most, 3)
	tells(t, "store 0", m.Store(2, 0), api.OK)
	has(t, "store 0", m, 1, most, 0)
}

func TestFetchIsWhatTheCellHad(t *testing.T) {
	for _, c := range []struct{ had, more, now uint64 }{
		{5, 3, 8}, {5, 0, 5}, {0, most, most}, {most, 1, 0}, {1, most, 0}, {most, most, most - 1}, {1 << 63, 1 << 63, 0},
	} {
		m := of(t, 40, c.had)
		x, err := m.Fetch(1, c.more)
		tells(t, "fetch", err, api.OK)
		if x != c.had {
			t.Errorf("fetch of %d: got %d", c.had, x)
		}
		has(t, fmt.Sprint("fetch ", c), m, 40, c.now)
	}
}

func TestSwapIsDoneJustIfTheCellHadIt(t *testing.T) {
	for _, c := range []struct {
		had, was, is uint64
		done         bool
	}{
		{8, 8, 1, true}, {8, 7, 1, false}, {8, 8, 8, true}, {1, 8, 1, false}, {0, 0, most, true}, {most, most, 0, true}, {0, most, 1, false},
	} {
		m, now := of(t, 40, c.had), c.had
		if c.done {
			now = c.is
		}
		done, err := m.Swap(1, c.was, c.is)
		tells(t, "swap", err, api.OK)
		if done != c.done {
			t.Errorf("swap %v: got %v", c, done)
		}
		has(t, fmt.Sprint("swap ", c), m, 40, now)
	}
}

func TestNothingIsDoneToACellThatThereIsNot(t *testing.T) {
	full := make([]uint64, api.MaxCells)
	for _, l := range [][]uint64{{}, {6}, {4, 5}, full} {
		m := of(t, l...)
		for _, at := range []int{math.MinInt, -1, len(l), len(l) + 1, math.MaxInt} {
			x, err := m.Load(at)
			tells(t, "load", err, api.ErrRange)
			y, err := m.Fetch(at, 1)
			tells(t, "fetch", err, api.ErrRange)
			done, err := m.Swap(at, 0, 0)
			tells(t, "swap", err, api.ErrRange)
			tells(t, "store", m.Store(at, 1), api.ErrRange)
			if x != 0 || y != 0 || done {
				t.Errorf("cell %d of %d: got %d, %d, %v beside errors", at, len(l), x, y, done)
			}
			has(t, fmt.Sprint("cell ", at), m, l...)
		}
	}
}

func TestTheLastOfMaxCellsIsThere(t *testing.T) {
	m, _ := mem.New(api.MaxCells)
	last := api.MaxCells - 1
	tells(t, "store", m.Store(last, 3), api.OK)
	x, err := m.Fetch(last, 4)
	tells(t, "fetch", err, api.OK)
	done, err := m.Swap(last, 7, 9)
	tells(t, "swap", err, api.OK)
	y, err := m.Load(last)
	tells(t, "load", err, api.OK)
	if x != 3 || !done || y != 9 {
		t.Errorf("got %d, %v, %d", x, done, y)
	}
}

func TestWordsAreTheCallers(t *testing.T) {
	m := of(t, 1, 2)
	a, b := m.Words(), m.Words()
	a[0] = 9
	_ = append(b[:1], 9)
	has(t, "words change", m, 1, 2)
	c := m.Words()
	tells(t, "store", m.Store(0, 5), api.OK)
	if !slices.Equal(c, []uint64{1, 2}) {
		t.Errorf("words of before became %v", c)
	}
}

func TestMemoriesAreApart(t *testing.T) {
	l := []uint64{1}
	a, b := of(t, l...), of(t, l...)
	tells(t, "store", a.Store(0, 2), api.OK)
	has(t, "the one", a, 2)
	has(t, "the other", b, 1)
}
