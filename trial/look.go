package trial

import (
	"quadrille/api"
	"quadrille/core"
)

// Look is what a machine shows.
type Look struct {
	Steps      int
	All, Stuck bool
	Cells      []uint64
	Acts       []api.Act
	Events     []api.Event
	Threads    []Stand
}

// Stand is where a thread of a machine is.
type Stand struct {
	At, Cell int
	Wrong    api.Errno
}

// Looks is all that a machine shows as it stands.
func Looks(c *core.Core) Look {
	all, stuck := c.Ends()
	l := Look{Steps: c.Steps(), All: all, Stuck: stuck, Cells: c.Cells(), Acts: c.Acts(), Events: c.Events()}
	for t := range c.Threads() {
		at, cell, err := c.At(t)
		l.Threads = append(l.Threads, Stand{At: at, Cell: cell, Wrong: api.Tell(err)})
	}
	return l
}
