package trial_test

import (
	"math/rand"
	"testing"

	"quadrille/api"
	"quadrille/central"
	"quadrille/part"
	"quadrille/trial"
)

// What is wrong with barriers, as their trials tell it.
const (
	ahead   = "gone ahead of one who comes"
	stuck   = "not all are at their ends"
	next    = "not what is said next at event 0"
	missing = "not all rounds"
)

// maker makes one party's program.
type maker func(n, id, rounds int) ([]api.Ins, error)

// none lets all go as they come.
func none(n, id, rounds int) ([]api.Ins, error) { return part.Whole(rounds, nil), nil }

// but is the central barrier, some instructions of which are others.
func but(others map[int]api.Ins) maker {
	return func(n, id, rounds int) ([]api.Ins, error) {
		l, err := central.Code(n, id, rounds)
		for k, other := range others {
			l[k] = other
		}
		return l, err
	}
}

// finds checks what trials of all orders tell, and those of some.
func finds(t *testing.T, name string, code maker, n, rounds int, want string) {
	t.Helper()
	b := trial.Barrier{Code: code, N: n, Rounds: rounds, Cells: 2}
	if _, got := b.All(); !begins(got, want) {
		t.Errorf("%s: all: got %q, want %q", name, got, want)
	}
	random := rand.New(rand.NewSource(1))
	got := ""
	for k := 0; k < 1000 && got == ""; k++ {
		got = b.Some(random.Intn)
	}
	if !begins(got, want) {
		t.Errorf("%s: some: got %q, want %q", name, got, want)
	}
}

// begins is whether a text is one, or that and a place.
func begins(s, with string) bool {
	return s == with || with != "" && len(s) > len(with) && s[:len(with)] == with
}

func TestWhatHoldsIsRight(t *testing.T) {
	finds(t, "central", central.Code, 2, 2, "")
	finds(t, "one", central.Code, 1, 3, "")
	finds(t, "no round", central.Code, 3, 0, "")
	finds(t, "one without a body", none, 1, 3, "")
}

func TestWhatDoesNotHoldIsFound(t *testing.T) {
	finds(t, "no body", none, 2, 1, ahead)
	finds(t, "the last one but one opens", but(map[int]api.Ins{6: {Op: api.Same, A: 1, B: 1, C: 13}}), 3, 1, ahead)
	finds(t, "who is woken doesn't look again", but(map[int]api.Ins{11: {Op: api.Jump, A: 12}}), 2, 1, ahead)
	finds(t, "the gate opens ahead of the count", but(map[int]api.Ins{
		13: {Op: api.Store, A: 1, B: 0, C: -1}, 14: {Op: api.Wake, A: 1, B: 2, C: -1},
		15: {Op: api.Let, A: 2}, 16: {Op: api.Store, A: 0, B: 2, C: -1},
	}), 2, 2, stuck)
	finds(t, "nobody is woken", but(map[int]api.Ins{16: {Op: api.Wake, A: 1, C: -1}}), 2, 1, stuck)
	finds(t, "too few are woken", but(map[int]api.Ins{16: {Op: api.Wake, A: 1, B: 1, C: -1}}), 3, 1, stuck)
	finds(t, "all wait", but(map[int]api.Ins{6: {Op: api.Same, A: 1, B: 2, C: 13}}), 2, 1, stuck)
	finds(t, "on and on", but(map[int]api.Ins{5: {Op: api.Jump, A: 5}}), 1, 1, stuck)
	finds(t, "another word", but(map[int]api.Ins{4: {Op: api.Say, A: api.Gone, B: 0}}), 1, 1, next)
	finds(t, "another round", but(map[int]api.Ins{0: {Op: api.Let, A: 0, B: 2}}), 1, 2, next)
	finds(t, "a round less", but(map[int]api.Ins{1: {Op: api.Let, A: 7, B: 2}}), 2, 2, missing)
}

func TestWhatIsNoBarrierIsTold(t *testing.T) {
	finds(t, "no code", func(n, id, rounds int) ([]api.Ins, error) { return nil, api.ErrCycle }, 2, 1, api.ErrCycle.Error())
	finds(t, "no cell", but(map[int]api.Ins{5: {Op: api.Fetch, A: 1, B: 2, C: 1}}), 2, 1, api.ErrRange.Error())
}
