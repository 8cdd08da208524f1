package trial

import (
	"errors"
	"math"
	"slices"
	"strconv"
	"strings"

	"quadrille/api"
	"quadrille/code"
	"quadrille/core"
)

// Calls is how a layer makes programs that ask for calls, and how the document writes a call's instructions: with "; " between, and p for where they begin; "" is no call.
type Calls struct {
	Code func(l []api.Call) ([]api.Ins, error)
	Text func(c api.Call) string
}

// Texts are those of calls by What, whose N is 0.
func Texts(texts map[int]string) func(c api.Call) string {
	return func(c api.Call) string {
		if c.N != 0 {
			return ""
		}
		return texts[c.What]
	}
}

// Placed is a text of instructions that begin at a place: p is that, p+1 one more, and so on.
func Placed(text string, place int) string {
	words := strings.Split(text, " ")
	for k, word := range words {
		word, end := strings.CutSuffix(word, ";")
		more, ok := strings.CutPrefix(word, "p")
		if !ok {
			continue
		}
		n, err := strconv.Atoi("0" + strings.TrimPrefix(more, "+"))
		if err != nil {
			continue
		}
		words[k] = strconv.Itoa(place + n)
		if end {
			words[k] += ";"
		}
	}
	return strings.Join(words, " ")
}

// Face tries what a layer answers: lists of all calls that there are, and of others, alone and by twos; and lists as long as they may be, and longer. It answers what is wrong; "" is nothing.
func (k Calls) Face() string {
	all := calls()
	right := slices.DeleteFunc(slices.Clone(all), func(c api.Call) bool { return k.Text(c) == "" })
	if len(right) == 0 {
		return "there is no call"
	}
	for _, c := range all {
		if wrong := k.Has(c); wrong != "" {
			return wrong
		}
		for _, next := range all {
			if wrong := k.Has(c, next); wrong != "" {
				return wrong
			}
		}
	}
	for n := range api.MaxCalls + 4 {
		for from := range right {
			if wrong := k.long(right, from, n); wrong != "" {
				return wrong
			}
		}
	}
	return ""
}

// long tries a list of so many calls, from one on, and those in which one is none.
func (k Calls) long(right []api.Call, from, n int) string {
	var l []api.Call
	for i := range n {
		l = append(l, right[(from+i)%len(right)])
	}
	if wrong := k.Has(l...); wrong != "" {
		return wrong
	}
	for i := range l {
		other := slices.Clone(l)
		other[i] = api.Call{}
		if wrong := k.Has(other...); wrong != "" {
			return wrong
		}
	}
	return ""
}

// Has looks whether the program of a list is as the document has it, or the error is. It answers what is wrong; "" is nothing.
func (k Calls) Has(l ...api.Call) string {
	wrong := k.has(l)
	if wrong == "" {
		return ""
	}
	at := " of"
	for _, c := range l {
		at += list(c.What, c.N) + ","
	}
	return wrong + strings.TrimSuffix(at, ",")
}

// has is Has, without a word of which list it is.
func (k Calls) has(l []api.Call) string {
	// Nothing is to be written into the list, nor behind it.
	memory := append(slices.Clone(l), api.Call{What: -1, N: -1})
	was := slices.Clone(memory)
	got, err := k.Code(memory[:len(l)])
	if !slices.Equal(memory, was) {
		return "written into"
	}
	text, none, place := k.want(l)
	if api.Tell(err) != none || placeOf(err) != place {
		return "not error" + list(int(none)) + " at" + list(place)
	}
	if none != api.OK {
		if len(got) != 0 {
			return "an answer beside an error"
		}
		return ""
	}
	if wrong := differs(got, text); wrong != "" {
		return wrong
	}
	clear(got[:cap(got)])
	if again, _ := k.Code(l); differs(again, text) != "" {
		return "not the same once more"
	}
	return ""
}

// want is the text of a program as the document has it; or an error, and its place (-1: none).
func (k Calls) want(l []api.Call) (text string, none api.Errno, place int) {
	if len(l) > api.MaxCalls {
		return "", api.ErrLimit, -1
	}
	for i, c := range l {
		piece := k.Text(c)
		if piece == "" {
			return "", api.ErrArg, i
		}
		text += Placed(piece, strings.Count(text, ";")) + "; "
	}
	return text + "halt; ", api.OK, -1
}

// Programs are those of threads that ask for these lists.
func (k Calls) Programs(lists [][]api.Call) ([][]api.Ins, error) {
	var programs [][]api.Ins
	for _, l := range lists {
		p, err := k.Code(l)
		if err != nil {
			return nil, err
		}
		programs = append(programs, p)
	}
	return programs, nil
}

// New is a machine of threads that ask for these lists, on cells that are so at first.
func (k Calls) New(lists [][]api.Call, cells ...uint64) (*core.Core, error) {
	p, err := k.Programs(lists)
	if err != nil {
		return nil, err
	}
	return core.New(p, cells)
}

// Whole looks whether the program of a list is just that text, with "; " between its instructions. It answers what is wrong; "" is nothing.
func (k Calls) Whole(text string, l ...api.Call) string {
	p, err := k.Code(l)
	if err != nil {
		return err.Error()
	}
	return differs(p, text+"; ")
}

// Room looks whether the program of a list has so many instructions, and so many cells do for it, and no fewer. It answers what is wrong; "" is nothing.
func (k Calls) Room(instructions, cells int, l ...api.Call) string {
	p, err := k.Code(l)
	if err != nil {
		return err.Error()
	}
	if len(p) != instructions {
		return strconv.Itoa(len(p)) + " instructions"
	}
	if err := code.Right(p, cells); err != nil {
		return err.Error()
	}
	if code.Right(p, cells-1) == nil {
		return "fewer cells do"
	}
	return ""
}

// placeOf is an error's place; -1: it has none.
func placeOf(err error) int {
	var at *api.At
	if errors.As(err, &at) {
		return at.Place
	}
	return -1
}

// calls are those of all layers, and some that are none, each with numbers that may be asked for, and that may not.
func calls() []api.Call {
	whats := []int{math.MinInt, math.MaxInt}
	for what := api.Down - 2; what <= api.Once+2; what++ {
		whats = append(whats, what)
	}
	var l []api.Call
	for _, what := range whats {
		for _, n := range []int{math.MinInt, -1, 0, 1, 2, 1000, 1001, api.MaxParties, api.MaxParties + 1, math.MaxInt32, math.MaxInt32 + 1, math.MaxInt} {
			l = append(l, api.Call{What: what, N: n})
		}
	}
	return l
}
