package trial

import (
	"strings"
	"testing"

	"quadrille/api"
	"quadrille/code"
)

// after is a machine's state after so many moves: a thread's letter is its step, a great one that it is woken for nothing.
func after(t *testing.T, moves string, programs ...string) string {
	t.Helper()
	var l [][]api.Ins
	for _, s := range programs {
		p, err := code.Parse(strings.ReplaceAll(s, "; ", "\n") + "\n")
		if err != nil {
			t.Fatalf("%q: %v", s, err)
		}
		l = append(l, p)
	}
	r, err := Machine{Programs: l, Cells: make([]uint64, 2)}.start()
	if err != nil {
		t.Fatal(err)
	}
	for _, letter := range moves {
		x := api.Move{Thread: int(letter - 'a')}
		if letter < 'a' {
			x = api.Move{Thread: int(letter - 'A'), Poke: true}
		}
		if !r.move(x) {
			t.Fatalf("%s: no move %c", moves, letter)
		}
	}
	return r.state()
}

// pair are two threads' programs, and two orders in which they go on.
type pair struct{ a, b, moves, others string }

func TestStatesDifferWhereWhatIsToComeMay(t *testing.T) {
	for name, p := range map[string]pair{
		"an end":  {"halt", "halt", "a", "b"},
		"a place": {"let 3 1; halt", "let 3 1; halt", "a", "b"},
		"a load":  {"load 1 0; halt", "fetch 1 0 1; fetch 1 0 -1; halt", "abb", "bab"},
		"a fetch": {"fetch 1 0 0; halt", "fetch 1 0 1; fetch 1 0 -1; halt", "abb", "bab"},
		"a cell":  {"let 3 1; store 0 3 -1; halt", "store 0 3 -1; halt", "aab", "aba"},
		"a word":  {"say 1 0; jump 0", "halt", "aa", "aaaa"},
		"a value": {"load 1 0; say 1 1; load 1 1; halt", "fetch 1 0 1; fetch 1 0 -1; halt", "aaabb", "baaab"},
		"a what":  {"load 1 0; same 1 1 4; say 1 2; jump 5; say 2 2; load 1 1; halt", "fetch 1 0 1; fetch 1 0 -1; halt", "aaaaabb", "baaaab"},
		"a sleep": {"wait 0 0; halt", "halt", "a", "aA"},
		"a swap":  {"let 3 1; swap 4 0 2 3; halt", "let 3 1; store 0 3 -1; halt", "aabb", "bbaa"},
		// What was there when somebody swapped may lie in a register yet, whatever was read since; so may whether it swapped, and what it fetched.
		"what was swapped":   {"load 5 0; let 3 1; swap 4 0 5 3; load 1 0; halt", "let 3 7; store 0 3 -1; let 3 1; store 0 3 -1; halt", "bbaaabba", "aaabbbba"},
		"whether it swapped": {"let 3 1; swap 4 0 2 3; load 1 0; halt", "let 3 1; swap 4 0 2 3; load 1 0; halt", "ababab", "abbaab"},
		"what was fetched":   {"fetch 1 0 1; load 2 1; halt", "fetch 1 0 1; load 2 1; halt", "aabb", "bbaa"},
		// Of those who sleep at a cell, who fell asleep first is woken first.
		"an order of sleepers":      {"wait 0 0; halt", "wait 0 0; halt", "ab", "ba"},
		"who is poked sleeps anew":  {"wait 0 0; jump 0", "wait 0 0; halt", "ab", "abAaa"},
		"who was woken sleeps anew": {"wait 0 0; jump 0", "wait 0 0; wake 0 1 -1; jump 0", "ab", "abBbbbaa"},
	} {
		if one, other := after(t, p.moves, p.a, p.b), after(t, p.others, p.a, p.b); one == other {
			t.Errorf("%s: %s and %s are both %q", name, p.moves, p.others, one)
		}
	}
}

func TestStatesAreTheSameWhereWhatIsToComeIs(t *testing.T) {
	for name, p := range map[string]pair{
		"an order":      {"let 3 1; halt", "let 3 1; halt", "ab", "ba"},
		"steps and all": {"load 1 0; jump 0", "halt", "a", "aaa"},
		// Nobody at one cell is woken ahead of who sleeps at another one.
		"an order of sleepers elsewhere":          {"wait 0 0; halt", "wait 1 0; halt", "ab", "ba"},
		"what was swapped ahead of what was said": {"let 3 1; swap 4 0 2 3; say 3 7; load 1 0; halt", "let 3 1; swap 4 0 2 3; say 3 7; load 1 0; halt", "abababab", "abbaabab"},
		"what was fetched ahead of what was said": {"fetch 1 0 1; say 3 7; load 2 1; halt", "fetch 1 0 1; say 3 7; load 2 1; halt", "aaabbb", "bbbaaa"},
	} {
		if one, other := after(t, p.moves, p.a, p.b), after(t, p.others, p.a, p.b); one != other {
			t.Errorf("%s: %s is %q, and %s is %q", name, p.moves, one, p.others, other)
		}
	}
}
