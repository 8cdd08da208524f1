package core_test

import (
	"fmt"
	"math/big"
	"slices"
	"testing"

	"quadrille/api"
	"quadrille/core"
)

// model is 4.1 to 4.3 as plainly as they are told, with numbers of any size, each brought below 2^64 as it is written.
type model struct {
	programs [][]api.Ins
	at       []int
	ended    []bool
	r        [][8]*big.Int
	m        []*big.Int
	asleep   [][2]int // thread and cell, who fell asleep first ahead
	acts     []api.Act
	events   []api.Event
	steps    int
}

var (
	whole = new(big.Int).Lsh(big.NewInt(1), 64)
	half  = new(big.Int).Lsh(big.NewInt(1), 63)
)

// word is a number modulo 2^64, from 0 on.
func word(x *big.Int) *big.Int { return new(big.Int).Mod(x, whole) }

// number is an instruction's number as a word.
func number(n int) *big.Int { return word(big.NewInt(int64(n))) }

// more is two numbers together.
func more(x, y *big.Int) *big.Int { return word(new(big.Int).Add(x, y)) }

// newModel is a model at first.
func newModel(programs [][]api.Ins, cells []uint64) *model {
	o := &model{programs: programs, at: make([]int, len(programs)), ended: make([]bool, len(programs)), r: make([][8]*big.Int, len(programs))}
	for t := range o.r {
		for i := range o.r[t] {
			o.r[t][i] = new(big.Int)
		}
	}
	for _, x := range cells {
		o.m = append(o.m, new(big.Int).SetUint64(x))
	}
	return o
}

// sleepsAt is where a thread sleeps, or -1.
func (o *model) sleepsAt(t int) int {
	for _, s := range o.asleep {
		if s[0] == t {
			return s[1]
		}
	}
	return -1
}

// can is Can.
func (o *model) can(t int) bool {
	return t >= 0 && t < len(o.programs) && !o.ended[t] && o.sleepsAt(t) < 0
}

// poke is Poke.
func (o *model) poke(t int) api.Errno {
	if t < 0 || t >= len(o.programs) {
		return api.ErrRange
	}
	if o.sleepsAt(t) < 0 {
		return api.ErrState
	}
	o.asleep = slices.DeleteFunc(o.asleep, func(s [2]int) bool { return s[0] == t })
	return api.OK
}

// step is Step.
func (o *model) step(t int) api.Errno {
	switch {
	case t < 0 || t >= len(o.programs):
		return api.ErrRange
	case o.ended[t]:
		return api.ErrState
	case o.sleepsAt(t) >= 0:
		return api.ErrNone
	case o.steps == 20000:
		return api.ErrLimit
	}
	o.steps++
	x := o.programs[t][o.at[t]]
	o.at[t]++
	if x.Op == api.Load || x.Op == api.Store || x.Op == api.Fetch || x.Op == api.Swap || x.Op == api.Wait || x.Op == api.Wake {
		return o.atCell(t, x)
	}
	o.alone(t, x)
	return api.OK
}

// alone does what is done without a cell.
func (o *model) alone(t int, x api.Ins) {
	r := &o.r[t]
	switch x.Op {
	case api.Halt:
		o.ended[t] = true
	case api.Let:
		r[x.A] = number(x.B)
	case api.Copy:
		r[x.A] = r[x.B]
	case api.Plus:
		r[x.A] = more(r[x.B], number(x.C))
	case api.Sum:
		r[x.A] = more(r[x.B], r[x.C])
	case api.Field:
		bits := new(big.Int)
		for i := range x.D {
			if x.C+i < 64 {
				bits.SetBit(bits, i, r[x.B].Bit(x.C+i))
			}
		}
		r[x.A] = bits
	case api.Jump:
		o.at[t] = x.A
	case api.Same:
		o.onIf(t, r[x.A].Cmp(number(x.B)) == 0, x.C)
	case api.Less:
		o.onIf(t, r[x.A].Cmp(r[x.B]) < 0, x.C)
	case api.Equal:
		o.onIf(t, r[x.A].Cmp(r[x.B]) == 0, x.C)
	case api.Say:
		value := new(big.Int).Set(r[x.B])
		if value.Cmp(half) >= 0 {
			value.Sub(value, whole)
		}
		o.events = append(o.events, api.Event{When: o.steps, What: x.A, Thread: t, Value: int(value.Int64())})
	}
}

// onIf lets a thread go on elsewhere if something is so.
func (o *model) onIf(t int, so bool, to int) {
	if so {
		o.at[t] = to
	}
}

// atCell does what is done at a cell.
func (o *model) atCell(t int, x api.Ins) api.Errno {
	r := &o.r[t]
	var cell int
	switch x.Op {
	case api.Load, api.Fetch, api.Swap:
		cell = x.B
	case api.Wait:
		cell = x.A
	case api.Store, api.Wake:
		sum := big.NewInt(int64(x.A))
		if x.C != -1 {
			sum.Add(sum, r[x.C])
		}
		if sum.Cmp(big.NewInt(int64(len(o.m)))) >= 0 {
			o.ended[t] = true
			return api.ErrFalse
		}
		cell = int(sum.Int64())
	}
	old := o.m[cell]
	switch x.Op {
	case api.Load:
		r[x.A] = old
	case api.Store:
		o.m[cell] = r[x.B]
	case api.Fetch:
		r[x.A], o.m[cell] = old, more(old, number(x.C))
	case api.Swap:
		is, swapped := r[x.D], int64(0)
		if old.Cmp(r[x.C]) == 0 {
			o.m[cell], swapped = is, 1
		}
		r[x.A] = big.NewInt(swapped)
	case api.Wait:
		if old.Cmp(r[x.B]) == 0 {
			o.asleep = append(o.asleep, [2]int{t, cell})
		}
		return api.OK
	case api.Wake:
		for woken := 0; woken < x.B; woken++ {
			i := slices.IndexFunc(o.asleep, func(s [2]int) bool { return s[1] == cell })
			if i < 0 {
				break
			}
			o.asleep = slices.Delete(o.asleep, i, i+1)
		}
		return api.OK
	}
	o.acts = append(o.acts, api.Act{When: o.steps, Thread: t, Op: x.Op, Cell: cell, Old: old.Uint64(), Now: o.m[cell].Uint64()})
	return api.OK
}

// looks is all that a model shows.
func (o *model) looks() string {
	all, stuck := true, true
	s := ""
	for t := -1; t <= len(o.programs); t++ {
		switch {
		case t < 0 || t == len(o.programs):
			s += fmt.Sprintln(false, 0, 0, api.ErrRange)
		case o.ended[t]:
			s += fmt.Sprintln(false, 0, 0, api.ErrState)
		default:
			s += fmt.Sprintln(o.can(t), o.at[t], o.sleepsAt(t), api.OK)
			all, stuck = false, stuck && !o.can(t)
		}
	}
	cells := make([]uint64, len(o.m))
	for i, x := range o.m {
		cells[i] = x.Uint64()
	}
	return s + fmt.Sprintln(all, stuck && !all, cells, o.steps, len(o.programs)) + fmt.Sprintln(o.acts, o.events)
}

// looks is all that a machine shows.
func looks(c *core.Core) string {
	s := ""
	for t := -1; t <= c.Threads(); t++ {
		at, cell, err := c.At(t)
		s += fmt.Sprintln(c.Can(t), at, cell, api.Tell(err))
	}
	all, stuck := c.Ends()
	return s + fmt.Sprintln(all, stuck, c.Cells(), c.Steps(), c.Threads()) + fmt.Sprintln(c.Acts(), c.Events())
}

// pair is a machine and its model, which are to be asked the same.
type pair struct {
	t    *testing.T
	name string
	c    *core.Core
	o    *model
}

// newPair is a machine and its model at first, or no test.
func newPair(t *testing.T, name string, programs [][]api.Ins, cells []uint64) pair {
	t.Helper()
	c, err := core.New(programs, cells)
	if err != nil {
		t.Fatalf("%s: new: %v", name, err)
	}
	return pair{t, name, c, newModel(programs, cells)}
}

// step is a Step of both.
func (p pair) step(thread int) {
	p.t.Helper()
	tells(p.t, p.name+": step", p.c.Step(thread), p.o.step(thread))
}

// poke is a Poke of both.
func (p pair) poke(thread int) {
	p.t.Helper()
	tells(p.t, p.name+": poke", p.c.Poke(thread), p.o.poke(thread))
}

// look checks that both show the same.
func (p pair) look() {
	p.t.Helper()
	if got, want := looks(p.c), p.o.looks(); got != want {
		p.t.Fatalf("%s: got\n%swant\n%s", p.name, got, want)
	}
}
