// Package ask puts programs together that ask for calls, one behind the other.
package ask

import "quadrille/api"

// Registers, by what the pieces keep in them.
const (
	Seen = 1 // what a cell was
	Is   = 2 // what it is to be
	Done = 3 // whether it was swapped
)

// Code is the program of these calls, one behind the other; call makes a call's instructions, the first of which has a place, or tells that there is no such call. ErrLimit: more than MaxCalls; ErrArg, with which one: there is no such call.
func Code(l []api.Call, call func(c api.Call, place int) ([]api.Ins, bool)) ([]api.Ins, error) {
	if len(l) > api.MaxCalls {
		return nil, api.ErrLimit
	}
	var p []api.Ins
	for i, c := range l {
		piece, ok := call(c, len(p))
		if !ok {
			return nil, &api.At{Err: api.ErrArg, Place: i}
		}
		p = append(p, piece...)
	}
	return append(p, api.Ins{Op: api.Halt}), nil
}

// Lessen takes one from a cell, and goes on behind its instructions, the first of which has a place; where the cell is 0 it goes on elsewhere, and takes none.
func Lessen(place, cell, elsewhere int) []api.Ins {
	return []api.Ins{
		{Op: api.Load, A: Seen, B: cell},
		{Op: api.Same, A: Seen, B: 0, C: elsewhere},
		{Op: api.Plus, A: Is, B: Seen, C: -1},
		{Op: api.Swap, A: Done, B: cell, C: Seen, D: Is},
		// Where somebody else changed the cell meanwhile, all is looked at again.
		{Op: api.Same, A: Done, B: 0, C: place},
	}
}

// Tell says that a call is done, and a register, which is its answer.
func Tell(answer int) api.Ins { return api.Ins{Op: api.Say, A: api.Told, B: answer} }
