package core

import "quadrille/api"

// do lets a thread that can go on do its instruction.
func (c *Core) do(t int) error {
	h := &c.threads[t]
	x := h.program[h.at]
	// Ahead of what it does, which may let it go on elsewhere.
	h.at++
	switch x.Op {
	case api.Halt:
		h.ended = true
	case api.Let, api.Copy, api.Plus, api.Sum, api.Field:
		h.reckon(x)
	case api.Jump, api.Same, api.Less, api.Equal:
		h.turn(x)
	case api.Load, api.Fetch, api.Swap:
		c.touch(t, x, x.B)
	case api.Wait:
		c.wait(t, x)
	case api.Store, api.Wake:
		return c.reach(t, x)
	case api.Say:
		c.events = append(c.events, api.Event{When: c.steps, What: x.A, Thread: t, Value: int(h.registers[x.B])})
	}
	return nil
}

// reckon does what is done to registers alone.
func (h *thread) reckon(x api.Ins) {
	r := &h.registers
	switch x.Op {
	case api.Let:
		r[x.A] = uint64(x.B)
	case api.Copy:
		r[x.A] = r[x.B]
	case api.Plus:
		r[x.A] = r[x.B] + uint64(x.C)
	case api.Sum:
		r[x.A] = r[x.B] + r[x.C]
	case api.Field:
		r[x.A] = (r[x.B] >> x.C) & (1<<x.D - 1)
	}
}

// turn lets it go on elsewhere, or not.
func (h *thread) turn(x api.Ins) {
	r := &h.registers
	switch {
	case x.Op == api.Jump:
		h.at = x.A
	case x.Op == api.Same && r[x.A] == uint64(x.B), x.Op == api.Less && r[x.A] < r[x.B], x.Op == api.Equal && r[x.A] == r[x.B]:
		h.at = x.C
	}
}

// wait lets a thread sleep, if the cell has what the register has.
func (c *Core) wait(t int, x api.Ins) {
	// There is the cell, as Right says of all that stand in a program; and who is to sleep is awake.
	has, _ := c.memory.Load(x.A)
	if has == c.threads[t].registers[x.B] {
		_ = c.lot.Sleep(t, x.A)
	}
}

// reach does what is done at a cell that may hang on a register; where there is no such cell, the thread is at its end.
func (c *Core) reach(t int, x api.Ins) error {
	h := &c.threads[t]
	cell, ok := c.cell(h, x)
	if !ok {
		h.ended = true
		return api.ErrFalse
	}
	if x.Op == api.Wake {
		c.lot.Wake(cell, x.B)
		return nil
	}
	c.touch(t, x, cell)
	return nil
}

// cell is the cell A, and register C more, if there is one.
func (c *Core) cell(h *thread, x api.Ins) (int, bool) {
	if x.C < 0 {
		return x.A, true
	}
	more := h.registers[x.C]
	// No sum with so much is a cell, and none may go round to one.
	if more >= api.MaxCells {
		return 0, false
	}
	cell := x.A + int(more)
	_, err := c.memory.Load(cell)
	return cell, err == nil
}

// touch does what is done to a cell that there is, which is an act, even if the cell has then what it had.
func (c *Core) touch(t int, x api.Ins, cell int) {
	r := &c.threads[t].registers
	// There is the cell, as Right says of all that stand in a program, and reach of the others.
	old, _ := c.memory.Load(cell)
	switch x.Op {
	case api.Load:
		r[x.A] = old
	case api.Store:
		_ = c.memory.Store(cell, r[x.B])
	case api.Fetch:
		r[x.A], _ = c.memory.Fetch(cell, uint64(x.C))
	case api.Swap:
		swapped, _ := c.memory.Swap(cell, r[x.C], r[x.D])
		r[x.A] = 0
		if swapped {
			r[x.A] = 1
		}
	}
	now, _ := c.memory.Load(cell)
	c.acts = append(c.acts, api.Act{When: c.steps, Thread: t, Op: x.Op, Cell: cell, Old: old, Now: now})
}
