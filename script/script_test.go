package script_test

import (
	"fmt"
	"math"
	"math/rand"
	"reflect"
	"slices"
	"strings"
	"testing"

	"quadrille/api"
	"quadrille/core"
	"quadrille/dance"
	"quadrille/plain"
	"quadrille/script"
	"quadrille/trial"
)

// far are numbers that are nobody's and nothing's.
var far = []int{math.MinInt, -256, -224, -2, -1, 21, 224, 256, 257, math.MaxInt}

// tells checks which Errno an error is, and that it has no place.
func tells(t *testing.T, name string, err error, want api.Errno) {
	t.Helper()
	if got, place := plain.Place(err); got != want || place != -1 {
		t.Errorf("%.200s: got error %d at %d, want %d without a place", name, got, place, want)
	}
}

// step and poke are moves.
func step(thread int) api.Move { return api.Move{Thread: thread} }
func poke(thread int) api.Move { return api.Move{Thread: thread, Poke: true} }

// of is a script of moves that leave nobody out.
func of(kind, n, rounds int, moves ...api.Move) api.Script {
	return api.Script{Kind: kind, N: n, Rounds: rounds, Moves: moves}
}

// played is the machine behind a script that is Right.
func played(t *testing.T, s api.Script) *core.Core {
	t.Helper()
	c, err := script.Play(s)
	if err != nil || c == nil {
		t.Fatalf("play %.200s: %v", fmt.Sprint(s), err)
	}
	return c
}

// is checks that a script may be, and what it is as bytes, and that these are that script.
func is(t *testing.T, s api.Script, want string) {
	t.Helper()
	was := fmt.Sprint(s)
	if !script.Right(s) {
		t.Errorf("%v isn't right", s)
	}
	got, err := script.Encode(s)
	tells(t, was, err, api.OK)
	if got != want {
		t.Errorf("encode %v: got %x, want %x", s, got, want)
	}
	if back := script.Decode(want); fmt.Sprint(back) != was {
		t.Errorf("decode %x: got %v, want %s", want, back, was)
	}
	if fmt.Sprint(s) != was {
		t.Errorf("%s: written into", was)
	}
}

// no checks that a script may not be.
func no(t *testing.T, s api.Script) {
	t.Helper()
	name := fmt.Sprint(s)
	if script.Right(s) {
		t.Errorf("%s is right", name)
	}
	text, err := script.Encode(s)
	tells(t, name, err, api.ErrArg)
	c, err := script.Play(s)
	tells(t, name, err, api.ErrArg)
	if text != "" || c != nil {
		t.Errorf("%s: %x, %v beside an error", name, text, c)
	}
}

func TestEachBound(t *testing.T) {
	for kind := 1; kind <= 6; kind++ {
		for n := 1; n <= 8; n++ {
			for rounds := 0; rounds <= 5; rounds++ {
				is(t, of(kind, n, rounds), string([]byte{byte(kind - 1), byte(n - 1), byte(rounds)}))
			}
		}
	}
	for _, kind := range append(far, 0, 7, 8) {
		no(t, of(kind, 1, 0))
		no(t, of(kind, 8, 5, step(0)))
	}
	for _, n := range append(far, 0, 9, 16) {
		no(t, of(1, n, 0))
		no(t, of(6, n, 5, step(0)))
	}
	for _, rounds := range append(far, 6, 20) {
		no(t, of(1, 1, rounds))
		no(t, of(6, 8, rounds, step(0)))
	}
	no(t, api.Script{})
}

func TestEachMoveIsOfOneOfThem(t *testing.T) {
	for n := 1; n <= 8; n++ {
		head := string([]byte{2, byte(n - 1), 3})
		for thread := range n {
			is(t, of(3, n, 3, step(thread)), head+string([]byte{byte(thread)}))
			is(t, of(3, n, 3, poke(thread)), head+string([]byte{byte(224 + thread)}))
			is(t, of(3, n, 3, poke(0), step(thread), step(thread)), head+string([]byte{224, byte(thread), byte(thread)}))
		}
		for _, thread := range append(far, n, n+1) {
			no(t, of(3, n, 3, step(thread)))
			no(t, of(3, n, 3, poke(thread)))
			no(t, of(3, n, 3, step(0), poke(n-1), step(thread)))
			no(t, of(3, n, 3, step(thread), poke(0)))
			no(t, of(3, n, 3, poke(thread), step(0)))
		}
	}
}

func TestThereMayBeAnyMovesOrNone(t *testing.T) {
	is(t, api.Script{Kind: 1, N: 1, Moves: []api.Move{}}, "\x00\x00\x00")
	moves := slices.Repeat([]api.Move{step(7), poke(3)}, 30000)
	is(t, of(6, 8, 5, moves...), "\x05\x07\x05"+strings.Repeat("\x07\xe3", 30000))
	moves[59999].Thread = 8
	no(t, of(6, 8, 5, moves...))
}

// decodes checks which script bytes are.
func decodes(t *testing.T, text []byte, want api.Script) {
	t.Helper()
	was := string(text)
	got := script.Decode(was)
	if fmt.Sprint(got) != fmt.Sprint(want) {
		t.Errorf("decode %.20x: got %.200s, want %.200s", text, fmt.Sprint(got), fmt.Sprint(want))
	}
	if !script.Right(got) {
		t.Errorf("decode %.20x: isn't right", text)
	}
}

func TestWhatIsMissingIsNought(t *testing.T) {
	decodes(t, nil, of(1, 1, 0))
	for b := range 256 {
		decodes(t, []byte{byte(b)}, of(b%6+1, 1, 0))
		decodes(t, []byte{5, byte(b)}, of(6, b%8+1, 0))
		decodes(t, []byte{4, 7, byte(b)}, of(5, 8, b%6))
	}
}

func TestEachByteOfTheHead(t *testing.T) {
	for b := range 256 {
		decodes(t, []byte{byte(b), 6, 4, 1, 225}, of(b%6+1, 7, 4, step(1), poke(1)))
		decodes(t, []byte{1, byte(b), 4, 0, 224}, of(2, b%8+1, 4, step(0), poke(0)))
		decodes(t, []byte{1, 6, byte(b), 6, 230}, of(2, 7, b%6, step(6), poke(6)))
	}
}

func TestEachByteOfAMove(t *testing.T) {
	for n := 1; n <= 8; n++ {
		var l []byte
		var moves []api.Move
		for b := range 256 {
			move := step(b % n)
			if b >= 224 {
				move = poke((b - 224) % n)
			}
			l, moves = append(l, byte(b)), append(moves, move)
			decodes(t, []byte{3, byte(n - 1), 2, byte(b)}, of(4, n, 2, move))
		}
		decodes(t, append([]byte{3, byte(n - 1), 2}, l...), of(4, n, 2, moves...))
	}
	// Of five, 224 is thread 0 of a Poke, though it would be 4 of a Step.
	decodes(t, []byte{0, 4, 1, 223, 224, 255}, of(1, 5, 1, step(3), poke(0), poke(1)))
}

func TestTextsAreBytes(t *testing.T) {
	decodes(t, []byte("\u00e9\u00e9"), of(0xc3%6+1, 0xa9%8+1, 0xc3%6, step(0xa9%2)))
	decodes(t, []byte("\xff\xfe\xfd\xfc"), of(4, 7, 1, poke(0)))
	decodes(t, []byte("\x00\x01\n\x00\n"), of(1, 2, 4, step(0), step(0)))
}

// whatever are some bytes.
func whatever(random *rand.Rand, long int) string {
	l := make([]byte, long)
	for i := range l {
		l[i] = byte(random.Intn(256))
	}
	return string(l)
}

func TestSomeBytesAreScripts(t *testing.T) {
	random := rand.New(rand.NewSource(1))
	for range 2000 {
		s := script.Decode(whatever(random, random.Intn(200)))
		text, err := script.Encode(s)
		tells(t, "encode", err, api.OK)
		if len(text) != 3+len(s.Moves) {
			t.Errorf("%v: got %x", s, text)
		}
		is(t, s, text)
	}
}

// looks is what a machine shows.
func looks(c *core.Core) string { return fmt.Sprint(trial.Looks(c)) }

// plays checks that a script's machine is that in which its moves were done, one behind the other.
func plays(t *testing.T, s api.Script) {
	t.Helper()
	was := fmt.Sprint(s)
	c, err := dance.New(s.Kind, s.N, s.Rounds)
	if err != nil {
		t.Fatal(err)
	}
	for _, m := range s.Moves {
		if m.Poke {
			_ = c.Poke(m.Thread)
		} else {
			_ = c.Step(m.Thread)
		}
	}
	if got, want := looks(played(t, s)), looks(c); got != want {
		t.Errorf("play %.200s: got\n%.500s\nwant\n%.500s", was, got, want)
	}
	if fmt.Sprint(s) != was {
		t.Errorf("play %.200s: written into", was)
	}
}

func TestPlayWithoutMovesIsANewMachine(t *testing.T) {
	for kind := 1; kind <= 6; kind++ {
		for n := 1; n <= 8; n++ {
			for rounds := 0; rounds <= 5; rounds++ {
				plays(t, of(kind, n, rounds))
			}
		}
	}
}

// asleep are the moves behind which thread 0 of two of a Central sleeps.
func asleep() []api.Move { return slices.Repeat([]api.Move{step(0)}, 9) }

func TestWhatCannotBeDoneIsLeft(t *testing.T) {
	at := func(s api.Script) string {
		c := played(t, s)
		place, cell, err := c.At(0)
		return fmt.Sprint(c.Steps(), " ", place, " ", cell, " ", err)
	}
	sleeps := at(of(1, 2, 1, asleep()...))
	if !strings.HasPrefix(sleeps, "9 ") || strings.Contains(sleeps, " -1 ") {
		t.Fatalf("thread 0 doesn't sleep: %s", sleeps)
	}
	// Who sleeps does no step; who doesn't isn't woken.
	if got := at(of(1, 2, 1, append(asleep(), step(0), step(0), poke(1))...)); got != sleeps {
		t.Errorf("got %s, want %s", got, sleeps)
	}
	if got := at(of(1, 2, 1, append([]api.Move{poke(0), poke(1)}, asleep()...)...)); got != sleeps {
		t.Errorf("got %s, want %s", got, sleeps)
	}
	woken := at(of(1, 2, 1, append(asleep(), poke(0))...))
	if woken == sleeps || !strings.HasPrefix(woken, "9 ") {
		t.Errorf("woken for nothing: got %s", woken)
	}
	if got := at(of(1, 2, 1, append(asleep(), poke(0), poke(0))...)); got != woken {
		t.Errorf("got %s, want %s", got, woken)
	}
	if got := at(of(1, 2, 1, append(asleep(), poke(0), step(0))...)); !strings.HasPrefix(got, "10 ") {
		t.Errorf("got %s, of ten steps", got)
	}
	// Whoever is at the end does no step.
	alone := played(t, of(1, 1, 0, slices.Repeat([]api.Move{step(0), poke(0)}, 50)...))
	if all, _ := alone.Ends(); !all || alone.Steps() > 50 {
		t.Errorf("alone: %d steps", alone.Steps())
	}
}

func TestNoMoreThanMaxStepsAreDone(t *testing.T) {
	// Thread 0 is woken for nothing over and over.
	moves := slices.Repeat([]api.Move{step(0), poke(0)}, api.MaxSteps+5)
	s := of(1, 2, 1, append(moves, step(1))...)
	plays(t, s)
	if c := played(t, s); c.Steps() != api.MaxSteps {
		t.Errorf("got %d steps", c.Steps())
	}
}

func TestPlayOfSomeBytes(t *testing.T) {
	random := rand.New(rand.NewSource(2))
	for range 400 {
		plays(t, script.Decode(whatever(random, random.Intn(1200))))
	}
}

func TestWhatStandsBehindTheMovesIsNoMatter(t *testing.T) {
	moves := []api.Move{step(0), poke(1), step(9), poke(-1)}
	s := of(1, 2, 1, moves[:2]...)
	is(t, s, "\x00\x01\x01\x00\xe1")
	plays(t, s)
	if !slices.Equal(moves[2:], []api.Move{step(9), poke(-1)}) {
		t.Errorf("written into: %v", moves)
	}
}

func TestWhatComesOutIsFresh(t *testing.T) {
	text := "\x00\x01\x01\x00\xe1"
	s, other := script.Decode(text), script.Decode(text)
	s.Moves[0] = poke(1)
	if again := script.Decode(text); !reflect.DeepEqual(other, again) || fmt.Sprint(again.Moves) != "[{0 false} {1 true}]" {
		t.Errorf("got %v", again)
	}
	c, d := played(t, other), played(t, other)
	if err := c.Step(1); err != nil || c.Steps() != 2 || d.Steps() != 1 {
		t.Errorf("got %d and %d steps, %v", c.Steps(), d.Steps(), err)
	}
	l := other.Moves[:1]
	text, _ = script.Encode(of(1, 2, 1, l...))
	l[0] = step(1)
	if text != "\x00\x01\x01\x00" {
		t.Errorf("got %x", text)
	}
}
