package gather

import (
	"slices"

	"quadrille/api"
	"quadrille/ask"
)

// register lets so many more come, if there would not be too many.
func register(place, n int) []api.Ins {
	gone, full, tell := place+11, place+13, place+14
	return slices.Concat(
		look(gone),
		[]api.Ins{
			partiesOf(part, ask.Seen),
			{Op: api.Let, A: other, B: api.MaxParties - n},
			{Op: api.Less, A: other, B: part, C: full},
			{Op: api.Plus, A: then, B: ask.Seen, C: oneParty * n},
		},
		change(place),
		[]api.Ins{
			phaseOf(part),
			{Op: api.Jump, A: tell},
		},
		answer(api.Over, tell),
		[]api.Ins{
			{Op: api.Let, A: part, B: api.Full},
			ask.Tell(part),
		},
	)
}

// closeDown lets it be over, and wakes all who await the end of a phase.
func closeDown(place int) []api.Ins {
	gone, tell := place+9, place+10
	return slices.Concat(
		look(gone),
		[]api.Ins{{Op: api.Plus, A: then, B: ask.Seen, C: over}},
		change(place),
		[]api.Ins{ask.WakeAll(state)},
		answer(0, tell),
		[]api.Ins{
			{Op: api.Let, A: part, B: api.Over},
			ask.Tell(part),
		},
	)
}

// watch awaits the end of a phase.
func watch(place, n int) []api.Ins {
	return append([]api.Ins{{Op: api.Let, A: phase, B: n}}, until(place+1)...)
}

// arrive lets one arrive, by what the state is more then, and tells in which phase.
func arrive(place, more int) []api.Ins {
	tell := place + 30
	return append(come(place, more, tell),
		api.Ins{Op: api.Copy, A: part, B: phase},
		ask.Tell(part),
	)
}

// pass lets one arrive, and awaits the end of the phase in which that was.
func pass(place int) []api.Ins {
	wait, tell := place+29, place+38
	return append(come(place, -1, tell), until(wait)...)
}
