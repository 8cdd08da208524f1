package gather

import (
	"slices"

	"quadrille/api"
	"quadrille/ask"
	"quadrille/packed"
)

// state is the cell that has a phaser's state, as a word.
const state = 0

// Registers of a phaser, by what is kept in them; ask.Seen is the state as it was seen.
const (
	part  = 2 // what is asked of the state; at last the answer
	other = 3 // what that is held against, or comes to it
	then  = 4 // the state as it is to be
	phase = 5 // the phase whose end is awaited
)

// What a state's word has more, if the state has.
const (
	oneParty = 1<<packed.Parties + 1<<packed.Waiting // one who comes from now on, and is to arrive already
	onePhase = 1 << packed.Phase
	// The highest bit, which as an int is below 0. Added to what isn't over it lets that be over; added where it is set already it takes it away.
	over = -1 << packed.Over
)

// isOver asks whether a word is over.
func isOver(word int) api.Ins {
	return api.Ins{Op: api.Field, A: part, B: word, C: packed.Over, D: 64 - packed.Over}
}

// phaseOf lets a register be the phase of the state that was seen.
func phaseOf(register int) api.Ins {
	return api.Ins{Op: api.Field, A: register, B: ask.Seen, C: packed.Phase, D: packed.Over - packed.Phase}
}

// partiesOf lets a register be how many there are in a word.
func partiesOf(register, word int) api.Ins {
	return api.Ins{Op: api.Field, A: register, B: word, C: packed.Parties, D: packed.Phase - packed.Parties}
}

// waiting lets part be how many are to arrive.
func waiting() api.Ins {
	return api.Ins{Op: api.Field, A: part, B: ask.Seen, C: packed.Waiting, D: packed.Parties - packed.Waiting}
}

// look sees the state, and goes on elsewhere if that is over.
func look(elsewhere int) []api.Ins {
	return []api.Ins{
		{Op: api.Load, A: ask.Seen, B: state},
		isOver(ask.Seen),
		{Op: api.Same, A: part, B: 1, C: elsewhere},
	}
}

// change lets the state be as it is to be; where somebody else changed it meanwhile, all is looked at again.
func change(again int) []api.Ins {
	return ask.Change(state, ask.Seen, then, again)
}

// answer lets a number be the answer, and goes on where that is told.
func answer(n, tell int) []api.Ins {
	return []api.Ins{
		{Op: api.Let, A: part, B: n},
		{Op: api.Jump, A: tell},
	}
}

// until sleeps till a phase is no more, and tells the phase that is then.
func until(place int) []api.Ins {
	sleep, none, tell := place+6, place+8, place+9
	return append(look(none),
		phaseOf(part),
		api.Ins{Op: api.Equal, A: part, B: phase, C: sleep},
		api.Ins{Op: api.Jump, A: tell},
		api.Ins{Op: api.Wait, A: state, B: ask.Seen},
		// Who is woken, be it for nothing, looks again; so does who doesn't sleep, as the state is another one by now.
		api.Ins{Op: api.Jump, A: place},
		api.Ins{Op: api.Let, A: part, B: api.Over},
		ask.Tell(part),
	)
}

// come lets one arrive, by what the state is more then (below 0), and goes on behind its instructions, phase being that in which it came. Where it can't arrive it goes on where an answer is told.
func come(place, more, tell int) []api.Ins {
	last, swap, wake, gone, none, done := place+8, place+18, place+23, place+25, place+27, place+29
	return slices.Concat(
		look(gone),
		[]api.Ins{
			waiting(),
			{Op: api.Same, A: part, B: 0, C: none},
			{Op: api.Plus, A: then, B: ask.Seen, C: more},
			{Op: api.Same, A: part, B: 1, C: last},
			{Op: api.Jump, A: swap},
		},
		goOn(last, swap),
		change(place),
		[]api.Ins{
			phaseOf(phase),
			// Who isn't the last one changes nothing that anybody awaits.
			{Op: api.Same, A: part, B: 1, C: wake},
			{Op: api.Jump, A: done},
			ask.WakeAll(state),
			{Op: api.Jump, A: done},
		},
		answer(api.Over, tell),
		answer(api.None, tell),
	)
}

// goOn lets the state that is to be, in which nobody is to arrive any more, be that of the next phase, or be over, if nobody is left; then it goes on where it is swapped.
func goOn(place, swap int) []api.Ins {
	first, end := place+7, place+9
	return []api.Ins{
		partiesOf(other, then),
		{Op: api.Same, A: other, B: 0, C: end},
		// All who are there are to arrive again.
		{Op: api.Sum, A: then, B: then, C: other},
		phaseOf(other),
		{Op: api.Same, A: other, B: packed.MaxPhase, C: first},
		{Op: api.Plus, A: then, B: then, C: onePhase},
		{Op: api.Jump, A: swap},
		// One more than the last phase sets the bit of what is over, which is taken away again.
		{Op: api.Plus, A: then, B: then, C: onePhase + over},
		{Op: api.Jump, A: swap},
		{Op: api.Plus, A: then, B: then, C: over},
	}
}
