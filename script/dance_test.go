package script_test

import (
	"fmt"
	"math/rand"
	"testing"

	"quadrille/fair"
	"quadrille/judge"
	"quadrille/script"
)

// dances checks that bytes are a dance: nobody goes ahead of all who come, and at last all are at their ends, and went through all rounds.
func dances(t *testing.T, text string) {
	t.Helper()
	s := script.Decode(text)
	c := played(t, s)
	if err := judge.Check(c.Events(), s.N); err != nil {
		t.Errorf("%x: %v", text, err)
	}
	fair.Finish(c)
	end, _ := c.Ends()
	all, some, err := judge.Rounds(c.Events(), s.N)
	if !end || all != s.Rounds || some != s.Rounds || err != nil {
		t.Errorf("%x: at ends: %v, got rounds %d, %d, want %d, %v", text, end, all, some, s.Rounds, err)
	}
}

func TestAnyBytesAreADance(t *testing.T) {
	for _, text := range []string{"", "\x00", "\xff", "\x05\xff", "\xff\xff\xff", "quadrille", "\n\n\n\n", fmt.Sprint(make([]int, 300))} {
		dances(t, text)
	}
	random := rand.New(rand.NewSource(3))
	for range 600 {
		dances(t, whatever(random, random.Intn(1500)))
	}
}

func TestOneWhoGoesOnAloneStays(t *testing.T) {
	// All bytes but the head's are one thread's, woken for nothing now and then.
	for kind := range 6 {
		for n := range 8 {
			text := string([]byte{byte(kind), byte(n), 5})
			for i := range 300 {
				text += string([]byte{byte(n)})
				if i%3 == 0 {
					text += string([]byte{224 + byte(n)})
				}
			}
			dances(t, text)
		}
	}
}
