package gather_test

import (
	"fmt"
	"math/rand"
	"slices"
	"testing"

	"quadrille/api"
	"quadrille/core"
	"quadrille/packed"
	"quadrille/phaser"
	"quadrille/trial"
)

// last is the last phase there is.
const last = 2147483647

// Calls without a number.
var (
	arrive  = api.Call{What: api.Arrive}
	leave   = api.Call{What: api.Leave}
	pass    = api.Call{What: api.Pass}
	closing = api.Call{What: api.Close}
)

// register and watch are calls with one.
func register(n int) api.Call { return api.Call{What: api.Register, N: n} }
func watch(n int) api.Call    { return api.Call{What: api.Watch, N: n} }

// ask is a list of calls.
func ask(l ...api.Call) []api.Call { return l }

// open is a state that isn't over.
func open(phase, parties, waiting int) api.Phase {
	return api.Phase{Phase: phase, Parties: parties, Waiting: waiting}
}

// gathered are threads that ask for calls of a phaser, and its state at first.
type gathered struct {
	first   api.Phase
	threads [][]api.Call
}

// machine is what is tried of them.
func (x gathered) machine(t *testing.T) trial.Machine {
	t.Helper()
	p, err := kind.Programs(x.threads)
	if err != nil {
		t.Fatalf("%v: %v", x, err)
	}
	return trial.Machine{Programs: p, Cells: []uint64{word(t, x.first)}, Now: x.now, Last: x.last}
}

// word is a state's.
func word(t *testing.T, p api.Phase) uint64 {
	t.Helper()
	w, err := packed.Word(p)
	if err != nil {
		t.Fatalf("%v: %v", p, err)
	}
	return w
}

// do is what comes of a call of a phaser in whose cell there is a word: its word then, and the answer; of a Pass as it arrives.
func do(w uint64, c api.Call) (uint64, int, error) {
	p, err := packed.Of(w)
	if err != nil {
		return 0, 0, err
	}
	if c == pass {
		c = arrive
	}
	then, answer, err := phaser.Do(p, c)
	if err != nil {
		return 0, 0, err
	}
	w, err = packed.Word(then)
	return w, answer, err
}

// did is what a thread did to the cell last, since it was answered ahead of a step, and its last change since then (of none When is 0), and how often it changed it.
func did(c *core.Core, thread, step int) (last, change api.Act, times int) {
	from := 0
	for _, e := range c.Events() {
		if e.Thread == thread && e.When < step {
			from = e.When
		}
	}
	for _, a := range c.Acts() {
		if a.Thread != thread || a.When <= from {
			continue
		}
		last = a
		if a.Old != a.Now {
			change = a
			times++
		}
	}
	return last, change, times
}

// now tells what is wrong with the last step: what is done to the cell is just what comes of the call, at once; and it is answered just what it was answered then.
func (x gathered) now(c *core.Core) string {
	if l := c.Acts(); len(l) > 0 && l[len(l)-1].When == c.Steps() {
		return x.acted(c, l[len(l)-1])
	}
	if a, ok := trial.LastAnswer(c, x.threads); ok {
		return x.told(c, a)
	}
	return ""
}

// acted tells what is wrong with what was done to the cell.
func (x gathered) acted(c *core.Core, a api.Act) string {
	if a.Old == a.Now {
		return ""
	}
	call := 0
	for _, e := range c.Events() {
		if e.Thread == a.Thread {
			call++
		}
	}
	then, _, err := do(a.Old, x.threads[a.Thread][call])
	_, _, times := did(c, a.Thread, a.When)
	switch {
	case err != nil:
		return "the state isn't right: " + err.Error()
	case times > 1:
		return "a call is done twice"
	case then != a.Now:
		return fmt.Sprintf("another state: %d, not %d", a.Now, then)
	}
	return ""
}

// told tells what is wrong with an answer.
func (x gathered) told(c *core.Core, a trial.Answer) string {
	last, change, times := did(c, a.Thread, a.When)
	at := last.Old
	if times > 0 {
		at = change.Old
	}
	then, want, err := do(at, a.Call)
	if err == nil && a.Call == pass && times > 0 {
		// It was done when it arrived; what it is answered then it saw at last.
		_, want, err = do(last.Old, watch(want))
	}
	switch {
	case last.When == 0:
		return "answered, and looked at nothing"
	case err != nil:
		return "the state isn't right: " + err.Error()
	case times == 0 && then != at:
		return "answered, and did nothing"
	case want == api.Waits:
		return "answered ahead of the end of the phase"
	case a.Value != want:
		return fmt.Sprintf("another answer: %d, not %d", a.Value, want)
	}
	return ""
}

// last tells what is wrong where nobody goes on any more: who isn't at its end sleeps, as what it awaits didn't come.
func (x gathered) last(c *core.Core) string {
	state, err := packed.Of(c.Cells()[0])
	if err != nil {
		return "the state isn't right: " + err.Error()
	}
	for _, w := range trial.Waits(c, x.threads) {
		if w.Cell != 0 || state.Over || !awaits(c, w.Thread, w.Call, state.Phase) {
			return fmt.Sprintf("%v isn't at its end, in %v", w, state)
		}
	}
	return ""
}

// awaits is whether a thread that isn't answered yet awaits the end of a phase.
func awaits(c *core.Core, thread int, call api.Call, phase int) bool {
	if call.What == api.Watch {
		return call.N == phase
	}
	_, change, times := did(c, thread, c.Steps())
	came, err := packed.Of(change.Old)
	return call == pass && times == 1 && err == nil && came.Phase == phase
}

func TestCallsAreDoneAtOnceInAnyOrder(t *testing.T) {
	for _, x := range []gathered{
		{open(0, 2, 2), [][]api.Call{ask(pass), ask(pass)}},
		{open(7, 2, 2), [][]api.Call{ask(pass, pass), ask(pass, pass)}},
		{open(last, 2, 1), [][]api.Call{ask(pass), ask(pass)}},
		{open(0, 1, 1), [][]api.Call{ask(pass, arrive), ask(arrive, arrive)}},
		{open(0, 2, 2), [][]api.Call{ask(leave), ask(pass, leave)}},
		{open(last, 2, 2), [][]api.Call{ask(leave, arrive), ask(arrive, leave)}},
		{open(0, 1, 1), [][]api.Call{ask(leave), ask(register(1), leave)}},
		{open(4, 65534, 1), [][]api.Call{ask(register(1), arrive), ask(register(1), watch(4))}},
		{open(4, 0, 0), [][]api.Call{ask(arrive, register(2)), ask(pass, leave)}},
		{open(0, 1, 1), [][]api.Call{ask(watch(0)), ask(watch(1)), ask(arrive, arrive)}},
		{open(0, 2, 2), [][]api.Call{ask(pass), ask(watch(0)), ask(closing)}},
		{open(0, 2, 2), [][]api.Call{ask(pass, closing), ask(leave, closing)}},
		{open(3, 2, 2), [][]api.Call{ask(arrive), ask(leave), ask(pass)}},
		// Of these some sleep in the end, or all.
		{open(0, 3, 3), [][]api.Call{ask(pass), ask(pass)}},
		{open(0, 2, 2), [][]api.Call{ask(pass), ask(register(1), arrive)}},
		{open(5, 0, 0), [][]api.Call{ask(watch(5)), ask(watch(4), watch(5))}},
	} {
		if n, wrong := x.machine(t).All(); wrong != "" {
			t.Errorf("%v: %s, in the last one of %d states", x, wrong, n)
		}
	}
}

// some is a call that there is.
func some(random *rand.Rand, phase int) api.Call {
	switch k := random.Intn(30); {
	case k == 0:
		return closing
	case k < 3:
		return register(1 + random.Intn(3))
	case k == 3:
		return register(1 + random.Intn(65535))
	case k < 8:
		return watch(min(last, phase+random.Intn(4)))
	case k < 12:
		return leave
	case k < 20:
		return arrive
	}
	return pass
}

func TestCallsAreDoneAtOnceOfMany(t *testing.T) {
	random := rand.New(rand.NewSource(1))
	for range 500 {
		n := 1 + random.Intn(api.MaxThreads)
		parties := []int{n, random.Intn(n + 1), 65535}[random.Intn(3)]
		x := gathered{open([]int{0, 9, last - 1, last}[random.Intn(4)], parties, min(parties, 1+random.Intn(n))), make([][]api.Call, n)}
		for k := range x.threads {
			for range random.Intn(1 + min(api.MaxCalls, 60/n)) {
				x.threads[k] = append(x.threads[k], some(random, x.first.Phase))
			}
		}
		if wrong := x.machine(t).Some(random.Intn); wrong != "" {
			t.Errorf("%v: %s", x, wrong)
		}
	}
}

// ahead tells what is wrong with threads that pass alone, and are all that come: somebody goes ahead of one who comes.
func (x gathered) ahead(c *core.Core) string {
	came, gone := make([]int, len(x.threads)), make([]int, len(x.threads))
	for _, a := range c.Acts() {
		if a.Old != a.Now {
			came[a.Thread]++
		}
	}
	for _, e := range c.Events() {
		gone[e.Thread]++
		if e.Value != x.first.Phase+gone[e.Thread] {
			return "another phase"
		}
	}
	if slices.Max(gone) > slices.Min(came) {
		return "ahead of one who comes"
	}
	return ""
}

// ended tells whether all are at their ends.
func ended(c *core.Core) string {
	if all, _ := c.Ends(); !all {
		return "not all are at their ends"
	}
	return ""
}

// passing are so many threads who pass so often.
func passing(n, times int) gathered {
	return gathered{open(5, n, n), slices.Repeat([][]api.Call{slices.Repeat(ask(pass), times)}, n)}
}

func TestItIsABarrier(t *testing.T) {
	barrier := func(n, times int) trial.Machine {
		x := passing(n, times)
		m := x.machine(t)
		m.Now = func(c *core.Core) string { return x.ahead(c) + x.now(c) }
		m.Last = ended
		return m
	}
	for _, x := range [][2]int{{1, 3}, {2, 1}, {2, 2}, {3, 1}} {
		if n, wrong := barrier(x[0], x[1]).All(); wrong != "" {
			t.Errorf("%v: %s, in the last one of %d states", x, wrong, n)
		}
	}
	random := rand.New(rand.NewSource(2))
	for n := range api.MaxThreads {
		n++
		if wrong := barrier(n, min(api.MaxCalls, 40/n)).Some(random.Intn); wrong != "" {
			t.Errorf("%d: %s", n, wrong)
		}
	}
}

// alone checks the answers of calls that a thread asks for with nobody beside it, and the state in the end.
func alone(t *testing.T, first api.Phase, then api.Phase, answers []int, l ...api.Call) {
	t.Helper()
	p, err := kind.Programs([][]api.Call{l})
	if err != nil {
		t.Fatal(err)
	}
	c, err := core.New(p, []uint64{word(t, first)})
	if err != nil {
		t.Fatal(err)
	}
	c.Run(make([]int, 1000))
	var got []int
	for _, e := range c.Events() {
		if e.What != api.Told {
			t.Errorf("%v of %v: says %d", l, first, e.What)
		}
		got = append(got, e.Value)
	}
	if !slices.Equal(got, answers) || c.Cells()[0] != word(t, then) {
		t.Errorf("%v of %v: got %v, %d, want %v, %d", l, first, got, c.Cells()[0], answers, word(t, then))
	}
}

func TestOneAlone(t *testing.T) {
	over := func(p api.Phase) api.Phase { p.Over = true; return p }
	alone(t, open(6, 0, 0), open(6, 65535, 65535), []int{6, 6}, register(65534), register(1))
	alone(t, open(6, 3, 2), open(6, 3, 2), []int{-3, -3}, register(65533), register(65535))
	alone(t, open(6, 3, 2), open(6, 65535, 65534), []int{6, -3}, register(65532), register(1))
	alone(t, open(last, 3, 2), open(0, 2, 2), []int{last, last, 0}, arrive, leave, watch(last))
	alone(t, open(last-1, 1, 1), open(1, 1, 1), []int{last, 0, 1}, pass, pass, pass)
	alone(t, open(last, 65535, 65535), open(last, 65534, 65533), []int{last, last}, leave, arrive)
	alone(t, open(last, 65535, 1), open(0, 65534, 65534), []int{last}, leave)
	alone(t, open(9, 65535, 1), open(10, 65534, 65534), []int{9}, leave)
	alone(t, open(9, 65535, 1), open(10, 65535, 65535), []int{10}, pass)
	alone(t, open(0, 1, 1), over(open(0, 0, 0)), []int{0, -1, -1, -1, -1, -1, -1}, leave, leave, arrive, pass, watch(0), register(1), closing)
	alone(t, open(last, 1, 1), over(open(last, 0, 0)), []int{last, -1}, leave, pass)
	alone(t, open(7, 2, 0), open(7, 2, 0), []int{-2, -2, -2}, arrive, leave, pass)
	alone(t, open(7, 0, 0), open(7, 1, 1), []int{-2, -2, -2, 7}, arrive, leave, pass, register(1))
	alone(t, open(last, 65535, 65535), over(open(last, 65535, 65535)), []int{0, -1, -1}, closing, closing, watch(0))
	alone(t, open(0, 0, 0), over(open(0, 0, 0)), []int{0, -1}, closing, register(65535))
	// Who waits for what doesn't come isn't answered.
	alone(t, open(7, 2, 2), open(7, 2, 1), []int{7}, watch(8), pass, arrive)
	alone(t, open(7, 2, 2), open(7, 2, 2), []int{7, 7}, watch(6), watch(8), watch(7), closing)
	alone(t, open(last, 2, 2), open(last, 2, 2), nil, watch(last), arrive)
}

func TestOneAloneDoesWhatThePhaserDoes(t *testing.T) {
	random := rand.New(rand.NewSource(3))
	for range 3000 {
		parties := []int{0, 1, 2, 3, 65534, 65535}[random.Intn(6)]
		p := open([]int{0, 1, 9, last - 1, last}[random.Intn(5)], parties, min(parties, random.Intn(4)))
		p.Over = random.Intn(20) == 0
		first, waits := p, false
		var l []api.Call
		var answers []int
		for range random.Intn(api.MaxCalls + 1) {
			c := some(random, first.Phase)
			l = append(l, c)
			if !waits {
				var answer int
				p, answer = modelled(p, c)
				waits = answer == api.Waits
				answers = append(answers, answer)
			}
		}
		if waits {
			answers = answers[:len(answers)-1]
		}
		alone(t, first, p, answers, l...)
	}
}

// modelled is what comes of a call with nobody beside it, and its answer; Waits: it is none.
func modelled(p api.Phase, c api.Call) (api.Phase, int) {
	if c != pass {
		then, answer, _ := phaser.Do(p, c)
		return then, answer
	}
	then, answer, _ := phaser.Do(p, arrive)
	if answer < 0 {
		return then, answer
	}
	_, answer, _ = phaser.Do(then, watch(answer))
	return then, answer
}
