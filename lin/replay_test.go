package lin_test

import (
	"fmt"
	"math"
	"math/rand"
	"slices"
	"testing"

	"quadrille/api"
	"quadrille/lin"
	"quadrille/packed"
	"quadrille/phaser"
	"quadrille/plain"
)

// highest is the last phase there is.
const highest = 2147483647

// open is a state that isn't over.
func open(phase, parties, waiting int) api.Phase {
	return api.Phase{Phase: phase, Parties: parties, Waiting: waiting}
}

// over is a state that is.
func over(phase, parties, waiting int) api.Phase {
	return api.Phase{Over: true, Phase: phase, Parties: parties, Waiting: waiting}
}

// replays checks what comes of points.
func replays(t *testing.T, name string, p api.Phase, calls lists, points []api.Point, then api.Phase, answers ...int) {
	t.Helper()
	got, l, err := lin.Replay(p, calls, points)
	if got != then || !slices.Equal(l, answers) || err != nil {
		t.Errorf("%s: got %v, %v, %v, want %v, %v", name, got, l, err, then, answers)
	}
}

// noReplay checks that an error is told.
func noReplay(t *testing.T, name string, p api.Phase, calls lists, points []api.Point, want api.Errno, at int) {
	t.Helper()
	got, l, err := lin.Replay(p, calls, points)
	if e, place := plain.Place(err); e != want || place != at || got != (api.Phase{}) || len(l) != 0 {
		t.Errorf("%s: got error %d at %d, want %d at %d; %v, %v", name, e, place, want, at, got, l)
	}
}

// at are points of calls, each a thread and a call, none of which is Late.
func at(places ...[2]int) []api.Point {
	var l []api.Point
	for k, x := range places {
		l = append(l, point(k+1, x[0], x[1]))
	}
	return l
}

func TestReplayOfNothing(t *testing.T) {
	for _, p := range []api.Phase{open(3, 2, 1), over(3, 2, 1), {}, open(-1, -2, -3), open(0, 1, 2)} {
		replays(t, "no points", p, lists{ask(arrive)}, nil, p)
		replays(t, "no points, no calls", p, nil, []api.Point{}, p)
	}
}

func TestReplayOfEachCall(t *testing.T) {
	calls := lists{ask(arrive, leave, register(2), watch(3), shut), ask(watch(4), register(65534))}
	p := open(3, 2, 2)
	replays(t, "arrive", p, calls, at([2]int{0, 0}), open(3, 2, 1), 3)
	replays(t, "leave", p, calls, at([2]int{0, 1}), open(3, 1, 1), 3)
	replays(t, "register", p, calls, at([2]int{0, 2}), open(3, 4, 4), 3)
	replays(t, "watch", p, calls, at([2]int{0, 3}, [2]int{1, 0}), p, api.Waits, 3)
	replays(t, "close", p, calls, at([2]int{0, 4}, [2]int{0, 4}, [2]int{0, 0}), over(3, 2, 2), 0, api.Over, api.Over)
	replays(t, "full", p, calls, at([2]int{1, 1}), p, api.Full)
	replays(t, "none", open(3, 2, 0), calls, at([2]int{0, 0}, [2]int{0, 1}), open(3, 2, 0), api.None, api.None)
	replays(t, "one behind the other", p, calls, at([2]int{0, 0}, [2]int{1, 0}, [2]int{0, 0}, [2]int{1, 0}, [2]int{0, 3}, [2]int{0, 1}, [2]int{0, 2}), open(4, 3, 3), 3, 3, 3, api.Waits, 4, 4, 4)
	replays(t, "beyond the last phase", open(highest, 2, 2), calls, at([2]int{0, 1}, [2]int{0, 0}, [2]int{1, 0}), open(0, 1, 1), highest, highest, 0)
	// A point's When is no matter, nor is Late of what isn't a Pass.
	replays(t, "whenever", p, calls, []api.Point{late(-7, 0, 0), late(math.MaxInt, 1, 0), late(0, 0, 4)}, over(3, 2, 1), 3, 3, 0)
}

func TestReplayOfAPass(t *testing.T) {
	calls := lists{ask(pass, pass), ask(pass), ask(arrive, shut)}
	replays(t, "alone", open(7, 1, 1), calls, []api.Point{point(1, 0, 0), late(2, 0, 0)}, open(8, 1, 1), 7, 8)
	replays(t, "beyond the last phase", open(highest, 1, 1), calls, []api.Point{point(1, 0, 0), late(2, 0, 0)}, open(0, 1, 1), highest, 0)
	replays(t, "two", open(7, 2, 2), calls, []api.Point{point(1, 0, 0), point(2, 1, 0), late(3, 1, 0), late(4, 0, 0)}, open(8, 2, 2), 7, 7, 8, 8)
	replays(t, "ahead of the end", open(7, 2, 2), calls, []api.Point{point(1, 0, 0), late(2, 0, 0), point(3, 1, 0), late(4, 1, 0)}, open(8, 2, 2), 7, api.Waits, 7, 8)
	replays(t, "at once", open(7, 2, 2), calls, []api.Point{point(1, 0, 0), point(2, 0, 0), point(3, 0, 0)}, open(8, 2, 1), 7, 7, 8)
	replays(t, "over", open(7, 2, 2), calls, []api.Point{point(1, 0, 0), point(2, 2, 1), late(3, 0, 0), point(4, 1, 0)}, over(7, 2, 1), 7, 0, api.Over, api.Over)
	replays(t, "none", open(7, 2, 0), calls, []api.Point{point(1, 0, 0)}, open(7, 2, 0), api.None)
	replays(t, "of a number", open(7, 1, 1), lists{ask(api.Call{What: api.Pass, N: 5})}, []api.Point{point(1, 0, 0), late(2, 0, 0)}, open(8, 1, 1), 7, 8)
	// Each call's own answer is awaited.
	replays(t, "another one's", open(3, 1, 1), calls, []api.Point{point(1, 0, 0), point(2, 2, 0), point(3, 0, 1), late(4, 0, 0), late(5, 0, 1), point(6, 1, 0), late(7, 1, 0)}, open(7, 1, 1), 3, 4, 5, 6, 6, 6, 7)
	replays(t, "its own", open(3, 4, 2), calls, []api.Point{point(1, 0, 0), point(2, 0, 1), point(3, 1, 0), late(4, 0, 0), late(5, 0, 1), late(6, 1, 0)}, open(4, 4, 3), 3, 3, 4, 4, 4, api.Waits)
}

func TestReplayOfALatePointWithoutAPhaseAhead(t *testing.T) {
	calls := lists{ask(pass, pass), ask(pass, arrive, register(1))}
	replays(t, "none ahead, in 0", open(0, 2, 2), calls, []api.Point{late(1, 0, 0)}, open(0, 2, 2), api.Waits)
	replays(t, "none ahead, in 5", open(5, 2, 2), calls, []api.Point{late(1, 0, 0)}, open(5, 2, 2), 5)
	replays(t, "another call's", open(5, 2, 2), calls, []api.Point{point(1, 0, 0), late(2, 0, 1), late(3, 1, 0)}, open(5, 2, 1), 5, 5, 5)
	replays(t, "below 0, in 0", open(0, 2, 0), calls, []api.Point{point(1, 0, 0), late(2, 0, 0)}, open(0, 2, 0), api.None, api.Waits)
	replays(t, "below 0, in 5", open(5, 2, 0), calls, []api.Point{point(1, 0, 0), late(2, 0, 0)}, open(5, 2, 0), api.None, 5)
	replays(t, "over", over(5, 2, 2), calls, []api.Point{point(1, 0, 0), late(2, 0, 0)}, over(5, 2, 2), api.Over, api.Over)
	// What a point ahead answered is what the last one did, be it a Late one.
	replays(t, "late behind late", open(0, 1, 1), calls, []api.Point{point(1, 1, 1), late(2, 0, 0), late(3, 0, 0), late(4, 0, 0)}, open(1, 1, 1), 0, 1, api.Waits, 1)
	replays(t, "arrived again", open(4, 1, 1), calls, []api.Point{point(1, 0, 0), point(2, 1, 1), point(3, 0, 0), late(4, 0, 0)}, open(7, 1, 1), 4, 5, 6, 7)
	replays(t, "waits below 0", open(2, 2, 2), calls, []api.Point{point(1, 0, 0), late(2, 0, 0), late(3, 0, 0)}, open(2, 2, 1), 2, api.Waits, 2)
}

func TestReplayOfCallsThatThereAreNot(t *testing.T) {
	calls := lists{ask(arrive, pass), ask(), ask(leave)}
	p := open(3, 9, 9)
	for _, x := range [][2]int{{-1, 0}, {3, 0}, {math.MinInt, 0}, {math.MaxInt, 0}, {0, -1}, {0, 2}, {0, math.MinInt}, {0, math.MaxInt}, {1, 0}, {1, -1}, {2, 1}} {
		noReplay(t, "alone", p, calls, at(x), api.ErrRange, 0)
		noReplay(t, "behind others", p, calls, at([2]int{0, 0}, [2]int{2, 0}, x, x), api.ErrRange, 2)
		noReplay(t, "of a state that isn't right", open(3, 1, 9), calls, at(x), api.ErrRange, 0)
		noReplay(t, "late", p, calls, []api.Point{late(1, x[0], x[1])}, api.ErrRange, 0)
	}
	noReplay(t, "no calls", p, nil, at([2]int{0, 0}), api.ErrRange, 0)
	many := slices.Repeat(lists{ask(arrive)}, 40)
	replays(t, "of many threads", p, many, at([2]int{39, 0}, [2]int{17, 0}), open(3, 9, 7), 3, 3)
}

func TestReplayOfCallsThatMayNotBe(t *testing.T) {
	p := open(3, 9, 9)
	for _, c := range []api.Call{{}, {What: -1}, {What: api.Lock}, {What: api.Down}, {What: api.Arrive, N: 1}, {What: api.Leave, N: -1}, {What: api.Close, N: 1}, register(0), register(65536), watch(-1), watch(highest + 1)} {
		calls := lists{ask(c, pass, arrive)}
		noReplay(t, "alone", p, calls, at([2]int{0, 0}), api.ErrArg, 0)
		noReplay(t, "late", p, calls, []api.Point{late(1, 0, 0)}, api.ErrArg, 0)
		noReplay(t, "behind others", p, calls, []api.Point{point(1, 0, 1), late(2, 0, 1), point(3, 0, 2), point(4, 0, 0), point(5, 1, 0)}, api.ErrArg, 3)
		noReplay(t, "ahead of one that there isn't", p, calls, at([2]int{0, 0}, [2]int{1, 0}), api.ErrArg, 0)
		noReplay(t, "behind one that there isn't", p, calls, at([2]int{1, 0}, [2]int{0, 0}), api.ErrRange, 0)
		replays(t, "not asked for", p, calls, at([2]int{0, 2}), open(3, 9, 8), 3)
	}
}

func TestReplayOfStatesThatAreNotRight(t *testing.T) {
	calls := lists{ask(arrive, pass, watch(0), shut)}
	for _, p := range []api.Phase{open(-1, 1, 1), open(highest+1, 1, 1), open(0, -1, -1), open(0, 65536, 1), open(0, 1, 2), over(0, 1, -1)} {
		for call := range calls[0] {
			noReplay(t, "a call", p, calls, at([2]int{0, call}), api.ErrArg, 0)
			noReplay(t, "a late call", p, calls, []api.Point{late(1, 0, call)}, api.ErrArg, 0)
		}
	}
}

// replayed is 21.2 as plainly as it is told; at is the point of an error.
func replayed(p api.Phase, calls lists, points []api.Point) (then api.Phase, answers []int, e api.Errno, at int) {
	for k, x := range points {
		if x.Thread < 0 || x.Thread >= len(calls) || x.Call < 0 || x.Call >= len(calls[x.Thread]) {
			return api.Phase{}, nil, api.ErrRange, k
		}
		c := calls[x.Thread][x.Call]
		if c == pass && !x.Late {
			c = arrive
		}
		if c == pass {
			c = watch(0)
			for i, ahead := range points[:k] {
				if ahead.Thread == x.Thread && ahead.Call == x.Call {
					c.N = max(0, answers[i])
				}
			}
		}
		if !packed.Right(p) || !phaser.Fits(c) {
			return api.Phase{}, nil, api.ErrArg, k
		}
		var answer int
		p, answer, _ = phaser.Do(p, c)
		answers = append(answers, answer)
	}
	return p, answers, api.OK, -1
}

func TestReplayOfWhatever(t *testing.T) {
	random := rand.New(rand.NewSource(2))
	for range 50000 {
		calls := make(lists, 1+random.Intn(3))
		for k := range calls {
			for range random.Intn(4) {
				all := []api.Call{pass, pass, pass, pass, arrive, arrive, leave, watch(random.Intn(3)), register(1), {What: api.Close, N: random.Intn(2)}, {What: random.Intn(20)}}
				calls[k] = append(calls[k], all[random.Intn(len(all))])
			}
		}
		var points []api.Point
		for range random.Intn(12) {
			x := api.Point{When: random.Intn(9), Thread: random.Intn(len(calls)), Late: random.Intn(2) == 0}
			if n := len(calls[x.Thread]); n > 0 {
				x.Call = random.Intn(n)
			}
			if random.Intn(40) == 0 {
				x.Call += random.Intn(5) - 2
			}
			points = append(points, x)
		}
		p := open([]int{0, 1, highest}[random.Intn(3)], random.Intn(4), random.Intn(3))
		name := fmt.Sprint(p, calls, points)
		then, answers, e, at := replayed(p, calls, points)
		if e != api.OK {
			noReplay(t, name, p, calls, points, e, at)
		} else {
			replays(t, name, p, calls, points, then, answers...)
		}
		if t.Failed() {
			return
		}
	}
}

func TestReplayWritesIntoNothing(t *testing.T) {
	calls := lists{ask(pass, arrive), ask(leave), ask(shut)}
	points := []api.Point{point(3, 0, 0), late(2, 0, 0), point(1, 1, 0), point(4, 2, 0)}
	was := fmt.Sprint(calls, points)
	_, l, err := lin.Replay(open(0, 2, 2), calls[:2], points[:3])
	if err != nil || fmt.Sprint(calls, points) != was {
		t.Errorf("%v; written into: %v %v", err, calls, points)
	}
	clear(l[:cap(l)])
	replays(t, "once more", open(0, 2, 2), calls[:2], points[:3], open(1, 1, 1), 0, api.Waits, 0)
}
