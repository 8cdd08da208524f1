// Package ask puts programs together that ask for calls, one behind the other.
package ask

import "quadrille/api"

// Registers, by what the pieces keep in them.
const (
	Seen = 1 // what a cell was
	Is   = 2 // what it is to be
	Done = 3 // whether it was swapped
)

// Code is the program of these calls, one behind the other; call makes a call's instructions, the first of which has a place, or tells that there is no such call. ErrLimit: more than MaxCalls; ErrArg, with which one: there is no such call.
func Code(l []api.Call, call func(c api.Call, place int) ([]api.Ins, bool)) ([]api.Ins, error) {
	if len(l) > api.MaxCalls {
		return nil, api.ErrLimit
	}
	var p []api.Ins
	for i, c := range l {
		piece, ok := call(c, len(p))
		if !ok {
			return nil, &api.At{Err: api.ErrArg, Place: i}
		}
		p = append(p, piece...)
	}
	return append(p, api.Ins{Op: api.Halt}), nil
}

// Bare is the program of calls that have no number, likewise; pieces make a call's instructions, by What.
func Bare(l []api.Call, pieces map[int]func(place int) []api.Ins) ([]api.Ins, error) {
	return Code(l, func(c api.Call, place int) ([]api.Ins, bool) {
		piece, ok := pieces[c.What]
		if !ok || c.N != 0 {
			return nil, false
		}
		return piece(place), true
	})
}

// Lessen takes one from a cell, and goes on behind its instructions, the first of which has a place; where the cell is 0 it goes on elsewhere, and takes none.
func Lessen(place, cell, elsewhere int) []api.Ins {
	l := []api.Ins{
		{Op: api.Load, A: Seen, B: cell},
		{Op: api.Same, A: Seen, B: 0, C: elsewhere},
		{Op: api.Plus, A: Is, B: Seen, C: -1},
	}
	// Where somebody else changed the cell meanwhile, all is looked at again.
	return append(l, Change(cell, Seen, Is, place)...)
}

// AwaitNought sleeps till a cell is 0, and goes on behind its instructions, the first of which has a place.
func AwaitNought(place, cell int) []api.Ins {
	return []api.Ins{
		{Op: api.Load, A: Seen, B: cell},
		{Op: api.Same, A: Seen, B: 0, C: place + 4},
		{Op: api.Wait, A: cell, B: Seen},
		// Who is woken, be it for nothing, looks again.
		{Op: api.Jump, A: place},
	}
}

// Change lets a cell that is one register be another one; where it isn't that register it stays, and it goes on elsewhere.
func Change(cell, from, to, elsewhere int) []api.Ins {
	return []api.Ins{
		{Op: api.Swap, A: Done, B: cell, C: from, D: to},
		{Op: api.Same, A: Done, B: 0, C: elsewhere},
	}
}

// WakeAll wakes all who sleep at a cell.
func WakeAll(cell int) api.Ins {
	return api.Ins{Op: api.Wake, A: cell, B: api.MaxThreads, C: -1}
}

// Tell says that a call is done, and a register, which is its answer.
func Tell(answer int) api.Ins { return api.Ins{Op: api.Say, A: api.Told, B: answer} }
