package trial

import (
	"strings"
	"testing"

	"quadrille/api"
	"quadrille/code"
	"quadrille/core"
)

// after is a machine's state after so many moves: a thread's letter is its step, a great one that it is woken for nothing.
func after(t *testing.T, moves string, programs ...string) string {
	t.Helper()
	var l [][]api.Ins
	for _, s := range programs {
		p, err := code.Parse(strings.ReplaceAll(s, "; ", "\n") + "\n")
		if err != nil {
			t.Fatalf("%q: %v", s, err)
		}
		l = append(l, p)
	}
	c, err := core.New(l, make([]uint64, 1))
	if err != nil {
		t.Fatal(err)
	}
	for _, r := range moves {
		m := api.Move{Thread: int(r - 'a')}
		if r < 'a' {
			m = api.Move{Thread: int(r - 'A'), Poke: true}
		}
		if !move(c, m) {
			t.Fatalf("%s: no move %c", moves, r)
		}
	}
	return state(c)
}

// pair are two threads' programs, and two orders in which they go on.
type pair struct{ a, b, moves, others string }

func TestStatesDifferWhereWhatIsToComeMay(t *testing.T) {
	for name, p := range map[string]pair{
		"an end":  {"halt", "halt", "a", "b"},
		"a place": {"let 3 1; halt", "let 3 1; halt", "a", "b"},
		"a load":  {"load 1 0; halt", "fetch 1 0 1; fetch 1 0 -1; halt", "abb", "bab"},
		"a fetch": {"fetch 1 0 0; halt", "fetch 1 0 1; fetch 1 0 -1; halt", "abb", "bab"},
		"a cell":  {"let 3 1; store 0 3 -1; halt", "store 0 3 -1; halt", "aab", "aba"},
		"a word":  {"say 1 0; jump 0", "halt", "aa", "aaaa"},
		"a sleep": {"wait 0 0; halt", "halt", "a", "aA"},
	} {
		if one, other := after(t, p.moves, p.a, p.b), after(t, p.others, p.a, p.b); one == other {
			t.Errorf("%s: %s and %s are both %q", name, p.moves, p.others, one)
		}
	}
}

func TestStatesAreTheSameWhereWhatIsToComeIs(t *testing.T) {
	for name, p := range map[string]pair{
		"an order":      {"let 3 1; halt", "let 3 1; halt", "ab", "ba"},
		"steps and all": {"load 1 0; jump 0", "halt", "a", "aaa"},
	} {
		if one, other := after(t, p.moves, p.a, p.b), after(t, p.others, p.a, p.b); one != other {
			t.Errorf("%s: %s is %q, and %s is %q", name, p.moves, one, p.others, other)
		}
	}
}
