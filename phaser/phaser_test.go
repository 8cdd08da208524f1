package phaser_test

import (
	"math"
	"math/rand"
	"testing"

	"quadrille/api"
	"quadrille/packed"
	"quadrille/phaser"
	"quadrille/plain"
)

// last is the last phase there is.
const last = 2147483647

// none are numbers of calls that there are not, and of calls of other machines.
var none = []int{math.MinInt, -1, 0, api.Down, api.Await, api.Take, api.Give, api.Trade, api.Lock, api.Unlock, api.Share, api.Unshare, api.Own, api.Disown, api.Once, 19, 1 << 32, 1<<32 + api.Arrive, math.MaxInt}

// some are numbers that a call may be of.
var some = []int{math.MinInt, math.MinInt + 1, -1 << 32, -65536, -2, -1, 0, 1, 2, 3, 4, 65534, 65535, 65536, 65537, last - 1, last, last + 1, 1 << 32, 1<<32 + 1, math.MaxInt - 1, math.MaxInt}

// open is a state that isn't over.
func open(phase, parties, waiting int) api.Phase {
	return api.Phase{Phase: phase, Parties: parties, Waiting: waiting}
}

// over is a state that is over.
func over(phase, parties, waiting int) api.Phase {
	return api.Phase{Over: true, Phase: phase, Parties: parties, Waiting: waiting}
}

// does checks what comes of a call, and its answer.
func does(t *testing.T, p api.Phase, what, n int, then api.Phase, answer int) {
	t.Helper()
	got, told, err := phaser.Do(p, api.Call{What: what, N: n})
	if got != then || told != answer || err != nil {
		t.Errorf("%v, call %d of %d: got %v, %d, %v, want %v, %d", p, what, n, got, told, err, then, answer)
	}
}

// mayNot checks that a call is an error.
func mayNot(t *testing.T, p api.Phase, what, n int) {
	t.Helper()
	got, told, err := phaser.Do(p, api.Call{What: what, N: n})
	if e, place := plain.Place(err); e != api.ErrArg || place != -1 || got != (api.Phase{}) || told != 0 {
		t.Errorf("%v, call %d of %d: got %v, %d, error %d at %d", p, what, n, got, told, e, place)
	}
}

// fits is whether a call is one of those of 19.1.
func fits(what, n int) bool {
	least, most := 1, 0
	switch what {
	case api.Register:
		least, most = 1, 65535
	case api.Watch:
		least, most = 0, last
	case api.Arrive, api.Leave, api.Pass, api.Close:
		least, most = 0, 0
	}
	return n >= least && n <= most
}

func TestFits(t *testing.T) {
	for _, what := range append([]int{api.Register, api.Arrive, api.Leave, api.Pass, api.Watch, api.Close}, none...) {
		for _, n := range some {
			if got := phaser.Fits(api.Call{What: what, N: n}); got != fits(what, n) {
				t.Errorf("call %d of %d: got %t", what, n, got)
			}
		}
	}
}

func TestStatesThatMayNotBe(t *testing.T) {
	for _, p := range []api.Phase{open(-1, 1, 1), open(last+1, 1, 1), open(0, -1, 0), open(0, -1, -1), open(0, 65536, 1), open(0, 2, 3), open(0, 0, 1), open(0, 2, -1)} {
		for _, p.Over = range []bool{false, true} {
			mayNot(t, p, api.Register, 1)
			mayNot(t, p, api.Arrive, 0)
			mayNot(t, p, api.Leave, 0)
			mayNot(t, p, api.Watch, 0)
			mayNot(t, p, api.Close, 0)
			mayNot(t, p, api.Pass, 0)
		}
	}
}

func TestCallsThatMayNotBe(t *testing.T) {
	for _, p := range []api.Phase{open(0, 0, 0), open(3, 2, 1), over(3, 2, 1)} {
		mayNot(t, p, api.Pass, 0)
		mayNot(t, p, api.Pass, 1)
		mayNot(t, p, api.Register, 0)
		mayNot(t, p, api.Register, -1)
		mayNot(t, p, api.Register, 65536)
		mayNot(t, p, api.Watch, -1)
		mayNot(t, p, api.Watch, last+1)
		for _, n := range []int{math.MinInt, -1, 1, 65535, math.MaxInt} {
			mayNot(t, p, api.Arrive, n)
			mayNot(t, p, api.Leave, n)
			mayNot(t, p, api.Close, n)
		}
		for _, what := range none {
			mayNot(t, p, what, 0)
			mayNot(t, p, what, 1)
		}
	}
}

func TestWhatIsOverStays(t *testing.T) {
	for _, p := range []api.Phase{over(0, 0, 0), over(1, 0, 0), over(7, 3, 2), over(7, 3, 0), over(7, 1, 1), over(last, 65535, 65535)} {
		does(t, p, api.Register, 1, p, -1)
		does(t, p, api.Register, 65535, p, -1)
		does(t, p, api.Arrive, 0, p, -1)
		does(t, p, api.Leave, 0, p, -1)
		does(t, p, api.Watch, p.Phase, p, -1)
		does(t, p, api.Watch, 5, p, -1)
		does(t, p, api.Close, 0, p, -1)
	}
}

func TestRegister(t *testing.T) {
	does(t, open(0, 0, 0), api.Register, 1, open(0, 1, 1), 0)
	does(t, open(5, 2, 1), api.Register, 3, open(5, 5, 4), 5)
	does(t, open(5, 2, 0), api.Register, 3, open(5, 5, 3), 5)
	does(t, open(last, 0, 0), api.Register, 65535, open(last, 65535, 65535), last)
	does(t, open(4, 65534, 9), api.Register, 1, open(4, 65535, 10), 4)
	does(t, open(4, 65534, 9), api.Register, 2, open(4, 65534, 9), -3)
	does(t, open(4, 65535, 9), api.Register, 1, open(4, 65535, 9), -3)
	does(t, open(0, 1, 0), api.Register, 65534, open(0, 65535, 65534), 0)
	does(t, open(0, 1, 0), api.Register, 65535, open(0, 1, 0), -3)
	does(t, open(0, 65535, 65535), api.Register, 65535, open(0, 65535, 65535), -3)
}

func TestArrive(t *testing.T) {
	does(t, open(0, 2, 2), api.Arrive, 0, open(0, 2, 1), 0)
	does(t, open(0, 2, 1), api.Arrive, 0, open(1, 2, 2), 0)
	does(t, open(8, 65535, 65535), api.Arrive, 0, open(8, 65535, 65534), 8)
	does(t, open(8, 65535, 1), api.Arrive, 0, open(9, 65535, 65535), 8)
	does(t, open(8, 1, 1), api.Arrive, 0, open(9, 1, 1), 8)
	does(t, open(8, 0, 0), api.Arrive, 0, open(8, 0, 0), -2)
	does(t, open(8, 3, 0), api.Arrive, 0, open(8, 3, 0), -2)
}

func TestLeave(t *testing.T) {
	does(t, open(0, 2, 2), api.Leave, 0, open(0, 1, 1), 0)
	does(t, open(6, 5, 3), api.Leave, 0, open(6, 4, 2), 6)
	does(t, open(6, 5, 1), api.Leave, 0, open(7, 4, 4), 6)
	does(t, open(6, 2, 1), api.Leave, 0, open(7, 1, 1), 6)
	does(t, open(6, 1, 1), api.Leave, 0, over(6, 0, 0), 6)
	does(t, open(0, 1, 1), api.Leave, 0, over(0, 0, 0), 0)
	does(t, open(last, 1, 1), api.Leave, 0, over(last, 0, 0), last)
	does(t, open(8, 0, 0), api.Leave, 0, open(8, 0, 0), -2)
	does(t, open(8, 3, 0), api.Leave, 0, open(8, 3, 0), -2)
}

func TestBehindTheLastPhaseIsTheFirst(t *testing.T) {
	does(t, open(last-1, 1, 1), api.Arrive, 0, open(last, 1, 1), last-1)
	does(t, open(last, 1, 1), api.Arrive, 0, open(0, 1, 1), last)
	does(t, open(last, 3, 1), api.Leave, 0, open(0, 2, 2), last)
	does(t, open(last, 3, 2), api.Arrive, 0, open(last, 3, 1), last)
}

func TestWatch(t *testing.T) {
	for _, p := range []api.Phase{open(0, 0, 0), open(1, 2, 1), open(65535, 3, 3), open(last-1, 1, 0), open(last, 65535, 1)} {
		for _, n := range []int{0, 1, 2, 65535, last - 1, last} {
			answer := p.Phase
			if n == p.Phase {
				answer = -4
			}
			does(t, p, api.Watch, n, p, answer)
		}
	}
}

func TestClose(t *testing.T) {
	does(t, open(0, 0, 0), api.Close, 0, over(0, 0, 0), 0)
	does(t, open(5, 2, 1), api.Close, 0, over(5, 2, 1), 0)
	does(t, open(last, 65535, 0), api.Close, 0, over(last, 65535, 0), 0)
}

// model is 19.1 as plainly as it is told, of a state that is right and a call that may be.
func model(p api.Phase, c api.Call) (api.Phase, int) {
	then, answer := p, p.Phase
	less := map[int][2]int{api.Arrive: {1, 0}, api.Leave: {1, 1}}[c.What]
	switch {
	case p.Over:
		answer = -1
	case c.What == api.Register && p.Parties > 65535-c.N:
		answer = -3
	case c.What == api.Register:
		then.Parties, then.Waiting = p.Parties+c.N, p.Waiting+c.N
	case c.What == api.Watch && p.Phase == c.N:
		answer = -4
	case c.What == api.Watch:
	case c.What == api.Close:
		then.Over, answer = true, 0
	case p.Waiting == 0:
		answer = -2
	default:
		then.Waiting, then.Parties = p.Waiting-less[0], p.Parties-less[1]
		if then.Waiting == 0 && then.Parties == 0 {
			then.Over = true
		} else if then.Waiting == 0 {
			then.Phase, then.Waiting = (p.Phase+1)%2147483648, then.Parties
		}
	}
	return then, answer
}

func TestAllCallsOfManyStates(t *testing.T) {
	calls := append([]int{api.Register, api.Arrive, api.Leave, api.Pass, api.Watch, api.Close}, none...)
	var states []api.Phase
	for _, phase := range []int{-1, 0, 1, 2, 65535, last - 1, last, last + 1} {
		for _, parties := range []int{-1, 0, 1, 2, 3, 65534, 65535, 65536} {
			for _, waiting := range []int{-1, 0, 1, 2, 3, 65533, 65534, 65535, 65536} {
				states = append(states, open(phase, parties, waiting), over(phase, parties, waiting))
			}
		}
	}
	for _, p := range states {
		for _, what := range calls {
			for _, n := range some {
				if !packed.Right(p) || !fits(what, n) || what == api.Pass {
					mayNot(t, p, what, n)
					continue
				}
				then, answer := model(p, api.Call{What: what, N: n})
				does(t, p, what, n, then, answer)
			}
		}
	}
}

// drawn is a call that there may be.
func drawn(random *rand.Rand, p api.Phase) api.Call {
	switch k := random.Intn(200); {
	case k == 0:
		return api.Call{What: api.Close}
	case k < 20:
		return api.Call{What: api.Register, N: 1 + random.Intn(4)}
	case k < 25:
		return api.Call{What: api.Register, N: 1 + random.Intn(65535)}
	case k < 50:
		return api.Call{What: api.Watch, N: max(0, p.Phase-random.Intn(2))}
	case k < 90:
		return api.Call{What: api.Leave}
	}
	return api.Call{What: api.Arrive}
}

func TestOneCallBehindTheOther(t *testing.T) {
	random := rand.New(rand.NewSource(1))
	for range 2000 {
		parties := random.Intn(6)
		p := open([]int{0, 9, last - 3}[random.Intn(3)], parties, parties)
		for range 100 {
			c := drawn(random, p)
			then, answer := model(p, c)
			does(t, p, c.What, c.N, then, answer)
			// Whatever comes of a call may be, and be called again; and of those that are there somebody is to arrive, so that the phase can go on.
			if !packed.Right(then) || !then.Over && then.Parties > 0 && then.Waiting == 0 {
				t.Fatalf("%v, %v: %v", p, c, then)
			}
			p = then
		}
	}
}

func TestItIsABarrier(t *testing.T) {
	for _, n := range []int{1, 2, 3, 16, 1000, 65535} {
		p := open(0, n, n)
		for phase := range 3 {
			for k := range n {
				if p.Phase != phase {
					t.Fatalf("phase %d of %d, ahead of one who comes", p.Phase, n)
				}
				var answer int
				if p, answer, _ = phaser.Do(p, api.Call{What: api.Arrive}); answer != phase {
					t.Fatalf("%d of %d: answered %d in phase %d", k, n, answer, phase)
				}
			}
			does(t, p, api.Watch, phase, p, phase+1)
		}
		if p != open(3, n, n) {
			t.Errorf("of %d: %v in the end", n, p)
		}
	}
}

func TestAllLeave(t *testing.T) {
	p := open(2, 0, 0)
	for _, x := range []struct {
		what, n, answer int
		then            api.Phase
	}{
		{api.Arrive, 0, -2, open(2, 0, 0)},
		{api.Register, 1, 2, open(2, 1, 1)},
		{api.Register, 1, 2, open(2, 2, 2)},
		{api.Arrive, 0, 2, open(2, 2, 1)},
		{api.Leave, 0, 2, open(3, 1, 1)},
		{api.Watch, 2, 3, open(3, 1, 1)},
		{api.Leave, 0, 3, over(3, 0, 0)},
		{api.Leave, 0, -1, over(3, 0, 0)},
		{api.Register, 1, -1, over(3, 0, 0)},
		{api.Watch, 2, -1, over(3, 0, 0)},
	} {
		does(t, p, x.what, x.n, x.then, x.answer)
		p = x.then
	}
}
