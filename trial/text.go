package trial

import (
	"slices"
	"strconv"
	"strings"

	"quadrille/api"
	"quadrille/code"
)

// Await is what waits till a cell is no less than register 0, as the document writes it, "; " behind each instruction.
func Await(place, cell int) string {
	return "load 1" + list(cell) + "; less 1 0" + list(place+3) + "; jump" + list(place+5) + "; wait" + list(cell, 1) + "; jump" + list(place) + "; "
}

// Tell is what lets a cell be register 0, and wakes so many there, likewise.
func Tell(cell, n int) string {
	return "store" + list(cell, 0, -1) + "; wake" + list(cell, n, -1) + "; "
}

// Bodies looks whether each program goes around just its party's body, written likewise. It answers what is wrong; "" is nothing.
func (k Kind) Bodies(body func(n, id int) string) string {
	for n := 1; n <= api.MaxThreads; n++ {
		for id := range n {
			for rounds := range api.MaxRounds + 1 {
				if wrong := k.Has(n, id, rounds, body(n, id)); wrong != "" {
					return "at" + list(n, id, rounds) + ": " + wrong
				}
			}
		}
	}
	return ""
}

// Has looks whether a program goes around just that body, written likewise. It answers what is wrong; "" is nothing.
func (k Kind) Has(n, id, rounds int, body string) string {
	got, err := k.Code(n, id, rounds)
	if err != nil {
		return err.Error()
	}
	return differs(got, "let 0 1; let 7"+list(rounds+1)+"; less 0 7 4; halt; say 1 0; "+body+"say 2 0; plus 0 0 1; jump 2; ")
}

// differs looks whether instructions are those of a text, "; " behind each. It answers what is wrong; "" is nothing.
func differs(got []api.Ins, text string) string {
	want, err := code.Parse(lines(text))
	if err != nil {
		return "no program: " + text
	}
	// The text doesn't tell what an instruction has that isn't named: it is 0 in what is parsed.
	if slices.Equal(got, want) {
		return ""
	}
	s, _ := code.Print(got)
	return "got\n" + s + "want\n" + lines(text)
}

// lines is a text with a line for each instruction.
func lines(s string) string { return strings.ReplaceAll(s, "; ", "\n") }

// list is numbers as a text, a blank ahead of each.
func list(numbers ...int) string {
	var b []byte
	for _, x := range numbers {
		b = strconv.AppendInt(append(b, ' '), int64(x), 10)
	}
	return string(b)
}
