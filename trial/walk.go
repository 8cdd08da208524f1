package trial

import (
	"strconv"
	"strings"

	"quadrille/api"
	"quadrille/core"
)

// Leg is so many steps of a thread, and what comes of them: what the cells are then, who sleeps, and what the thread said meanwhile, with blanks between.
type Leg struct {
	Thread, Steps       int
	Cells, Asleep, Said string
}

// Walk lets new threads that ask for these lists go on, as another Walk does.
func (k Calls) Walk(lists [][]api.Call, cells []uint64, legs ...Leg) string {
	c, err := k.New(lists, cells...)
	if err != nil {
		return err.Error()
	}
	return Walk(c, legs...)
}

// Walk lets the threads of a machine go on, one leg behind the other. It answers what is wrong, and by which step; "" is nothing.
func Walk(c *core.Core, legs ...Leg) string {
	for _, x := range legs {
		if wrong := x.walk(c); wrong != "" {
			return wrong + " behind step " + strconv.Itoa(c.Steps())
		}
	}
	return ""
}

// walk is Walk of one leg, without a word of the step.
func (x Leg) walk(c *core.Core) string {
	ahead := len(c.Events())
	for range x.Steps {
		if c.Step(x.Thread) != nil {
			return "thread " + strconv.Itoa(x.Thread) + " doesn't go on"
		}
	}
	var cells, asleep, said []string
	for _, word := range c.Cells() {
		cells = append(cells, strconv.FormatUint(word, 10))
	}
	for t := range c.Threads() {
		if _, cell, err := c.At(t); err == nil && cell >= 0 {
			asleep = append(asleep, strconv.Itoa(t))
		}
	}
	for _, e := range c.Events()[ahead:] {
		said = append(said, strconv.Itoa(e.Value))
	}
	if got := strings.Join(cells, " "); got != x.Cells {
		return "the cells are " + got
	}
	if got := strings.Join(asleep, " "); got != x.Asleep {
		return "asleep are " + got
	}
	if got := strings.Join(said, " "); got != x.Said {
		return "said is " + got
	}
	return ""
}
