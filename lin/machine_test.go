package lin_test

import (
	"fmt"
	"math/rand"
	"testing"

	"quadrille/api"
	"quadrille/core"
	"quadrille/gather"
	"quadrille/lin"
	"quadrille/packed"
	"quadrille/trial"
)

// gathered are threads that ask for calls of a phaser, and its state at first.
type gathered struct {
	first api.Phase
	calls lists
}

// machine is what is tried of them.
func (x gathered) machine(t *testing.T) trial.Machine {
	t.Helper()
	p, err := trial.Calls{Code: gather.Code}.Programs(x.calls)
	if err != nil {
		t.Fatalf("%v: %v", x, err)
	}
	w, err := packed.Word(x.first)
	if err != nil {
		t.Fatalf("%v: %v", x, err)
	}
	return trial.Machine{Programs: p, Cells: []uint64{w}, Now: x.now, Last: x.now}
}

// now tells what is wrong wherever it stands: the calls, each at once, one behind the other in the order of their points, lead to the state that is, and are answered what was said; and each point is within its call.
func (x gathered) now(c *core.Core) string {
	events := c.Events()
	points, err := lin.Points(x.calls, c.Acts(), events)
	if err != nil {
		return "points: " + err.Error()
	}
	then, answers, err := lin.Replay(x.first, x.calls, points)
	if err != nil {
		return "replay: " + err.Error()
	}
	if w, err := packed.Word(then); err != nil || w != c.Cells()[0] {
		return fmt.Sprintf("%v in the end, and %v in the cell", then, c.Cells())
	}
	// The last point of a call has its answer.
	last := map[[2]int]int{}
	for k, p := range points {
		last[[2]int{p.Thread, p.Call}] = answers[k]
		from, to, answered, ok := window(events, p.Thread, p.Call)
		if !ok || p.When <= from || answered && p.When >= to || !answered && (p.Late || p.When > c.Steps()) {
			return fmt.Sprintf("%v isn't within its call", p)
		}
		if k > 0 && points[k-1].When >= p.When {
			return fmt.Sprintf("%v isn't behind %v", p, points[k-1])
		}
	}
	come := make([]int, len(x.calls))
	for _, e := range events {
		answer, ok := last[[2]int{e.Thread, come[e.Thread]}]
		if !ok || answer != e.Value || answer == api.Waits {
			return fmt.Sprintf("call %d of %d is answered %d, not %d (%t)", come[e.Thread], e.Thread, e.Value, answer, ok)
		}
		come[e.Thread]++
	}
	return ""
}

func TestCallsAreAsIfEachHappenedAtOnceInAnyOrder(t *testing.T) {
	for _, x := range []gathered{
		{open(0, 2, 2), lists{ask(pass), ask(pass)}},
		{open(highest, 2, 2), lists{ask(pass, pass), ask(pass, arrive)}},
		{open(0, 1, 1), lists{ask(pass, leave), ask(pass)}},
		{open(0, 2, 2), lists{ask(leave, arrive), ask(pass, leave)}},
		{open(4, 65534, 1), lists{ask(register(1), arrive), ask(register(1), watch(4))}},
		{open(4, 0, 0), lists{ask(arrive, register(2)), ask(pass, leave)}},
		{open(0, 2, 2), lists{ask(pass, shut), ask(leave, shut)}},
		{open(0, 1, 1), lists{ask(watch(0)), ask(pass), ask(arrive)}},
		{open(0, 2, 2), lists{ask(pass), ask(watch(0)), ask(shut)}},
		{open(0, 3, 3), lists{ask(pass), ask(pass, leave)}},
		{open(5, 0, 0), lists{ask(watch(5)), ask(watch(4), watch(5))}},
	} {
		if n, wrong := x.machine(t).All(); wrong != "" {
			t.Errorf("%v: %s, in the last one of %d states", x, wrong, n)
		}
	}
}

func TestCallsAreAsIfEachHappenedAtOnceOfMany(t *testing.T) {
	random := rand.New(rand.NewSource(3))
	for range 150 {
		n := 1 + random.Intn(api.MaxThreads)
		parties := []int{n, random.Intn(n + 1), 65535}[random.Intn(3)]
		x := gathered{open([]int{0, 9, highest - 1, highest}[random.Intn(4)], parties, min(parties, 1+random.Intn(n))), make(lists, n)}
		for k := range x.calls {
			for range random.Intn(1 + min(api.MaxCalls, 60/n)) {
				some := ask(pass, pass, pass, arrive, arrive, leave, register(1+random.Intn(3)), watch(min(highest, x.first.Phase+random.Intn(4))))
				c := some[random.Intn(len(some))]
				if random.Intn(40) == 0 {
					c = shut
				}
				x.calls[k] = append(x.calls[k], c)
			}
		}
		if wrong := x.machine(t).Some(random.Intn); wrong != "" {
			t.Errorf("%v: %s", x, wrong)
		}
	}
}
