package trial

import (
	"math"
	"slices"

	"quadrille/api"
	"quadrille/code"
)

// Kind is a kind of barrier, as its package has it.
type Kind struct {
	Cells func(n int) (int, error)
	Code  func(n, id, rounds int) ([]api.Ins, error)
}

// For is the barrier of that kind for so many, so many rounds.
func (k Kind) For(n, rounds int) Barrier {
	// With an error there are no cells: then the machine tells that something is wrong.
	cells, _ := k.Cells(n)
	return Barrier{Code: k.Code, N: n, Rounds: rounds, Cells: cells}
}

// Orders tries all orders of barriers for so many, so many rounds each. It answers what is wrong; "" is nothing.
func (k Kind) Orders(sizes ...[2]int) string {
	for _, size := range sizes {
		if _, wrong := k.For(size[0], size[1]).All(); wrong != "" {
			return wrong + " of" + list(size[:]...)
		}
	}
	return ""
}

// Many tries some orders of barriers for whatever number may be, pick telling as in Some. It answers what is wrong; "" is nothing.
func (k Kind) Many(pick func(n int) int) string {
	for n := 1; n <= api.MaxThreads; n++ {
		for _, rounds := range []int{0, 1, 2, 5, api.MaxRounds} {
			for range 20 {
				if wrong := k.For(n, rounds).Some(pick); wrong != "" {
					return wrong + " of" + list(n, rounds)
				}
			}
		}
	}
	return ""
}

// Face tries what a kind answers within the bounds that all kinds have, at them, and beyond them. It answers what is wrong; "" is nothing.
func (k Kind) Face() string {
	for _, n := range numbers() {
		if wrong := k.cells(n); wrong != "" {
			return wrong + " at" + list(n)
		}
		for _, id := range numbers() {
			for _, rounds := range numbers() {
				if wrong := k.code(n, id, rounds); wrong != "" {
					return wrong + " at" + list(n, id, rounds)
				}
			}
		}
	}
	return ""
}

// cells tells what is wrong with how many cells so many need.
func (k Kind) cells(n int) string {
	cells, err := k.Cells(n)
	if !within(n, 1, api.MaxThreads) {
		if !refused(err) {
			return "cells: not ErrRange"
		}
		if cells != 0 {
			return "cells: an answer beside an error"
		}
		return ""
	}
	if err != nil {
		return "cells: an error"
	}
	if !within(cells, 0, api.MaxCells) {
		return "cells: no memory has so many"
	}
	return ""
}

// code tells what is wrong with a program.
func (k Kind) code(n, id, rounds int) string {
	l, err := k.Code(n, id, rounds)
	if !within(n, 1, api.MaxThreads) || !within(id, 0, n-1) || !within(rounds, 0, api.MaxRounds) {
		if !refused(err) {
			return "code: not ErrRange"
		}
		if len(l) != 0 {
			return "code: an answer beside an error"
		}
		return ""
	}
	if err != nil {
		return "code: an error"
	}
	cells, _ := k.Cells(n)
	if code.Right(l, cells) != nil {
		return "code: no program on so many cells"
	}
	was := slices.Clone(l)
	clear(l[:cap(l)])
	if again, _ := k.Code(n, id, rounds); !slices.Equal(again, was) {
		return "code: not the same once more"
	}
	return ""
}

// refused is whether an error is ErrRange, without a place.
func refused(err error) bool { return api.Tell(err) == api.ErrRange && placeOf(err) == -1 }

// numbers are those around all bounds, and the outermost.
func numbers() []int {
	l := []int{math.MinInt, math.MinInt + 1, math.MaxInt - 1, math.MaxInt}
	for x := -3; x <= max(api.MaxThreads, api.MaxRounds)+3; x++ {
		l = append(l, x)
	}
	return l
}

// within is whether x is from least to most.
func within(x, least, most int) bool { return least <= x && x <= most }
