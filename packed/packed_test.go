package packed_test

import (
	"math"
	"math/bits"
	"math/rand"
	"testing"

	"quadrille/api"
	"quadrille/packed"
	"quadrille/plain"
)

// last is the last phase there is.
const last = 2147483647

// is a state's word, and a word's state.
func is(t *testing.T, p api.Phase, w uint64) {
	t.Helper()
	if !packed.Right(p) {
		t.Errorf("%v isn't right", p)
	}
	if got, err := packed.Word(p); got != w || err != nil {
		t.Errorf("word of %v: got %d, %v, want %d", p, got, err, w)
	}
	if got, err := packed.Of(w); got != p || err != nil {
		t.Errorf("state of %d: got %v, %v, want %v", w, got, err, p)
	}
}

// no checks that a state may not be.
func no(t *testing.T, p api.Phase) {
	t.Helper()
	for _, p.Over = range []bool{false, true} {
		if packed.Right(p) {
			t.Errorf("%v is right", p)
		}
		w, err := packed.Word(p)
		if e, place := plain.Place(err); e != api.ErrArg || place != -1 || w != 0 {
			t.Errorf("word of %v: got %d, error %d at %d", p, w, e, place)
		}
	}
}

// none checks that a word is no state's.
func none(t *testing.T, w uint64) {
	t.Helper()
	p, err := packed.Of(w)
	if e, place := plain.Place(err); e != api.ErrForm || place != -1 || p != (api.Phase{}) {
		t.Errorf("state of %d: got %v, error %d at %d", w, p, e, place)
	}
}

func TestExamples(t *testing.T) {
	is(t, api.Phase{Phase: 3, Parties: 2, Waiting: 1}, 12885032961)
	is(t, api.Phase{Over: true, Phase: 3, Parties: 2, Waiting: 1}, 12885032961+9223372036854775808)
}

func TestWhatEachPartIsWorth(t *testing.T) {
	is(t, api.Phase{}, 0)
	is(t, api.Phase{Parties: 1}, 65536)
	is(t, api.Phase{Parties: 1, Waiting: 1}, 65537)
	is(t, api.Phase{Phase: 1}, 4294967296)
	is(t, api.Phase{Over: true}, 9223372036854775808)
	is(t, api.Phase{Parties: 65535}, 4294901760)
	is(t, api.Phase{Parties: 65535, Waiting: 65535}, 4294967295)
	is(t, api.Phase{Phase: last}, 9223372032559808512)
	is(t, api.Phase{Phase: last, Parties: 65535, Waiting: 65535}, math.MaxInt64)
	is(t, api.Phase{Over: true, Phase: last, Parties: 65535, Waiting: 65535}, math.MaxUint64)
}

func TestEachBitOfEachPart(t *testing.T) {
	for b := range 31 {
		is(t, api.Phase{Phase: 1 << b}, 1<<(32+b))
		is(t, api.Phase{Phase: last - 1<<b, Parties: 65535}, math.MaxInt64-1<<(32+b)-65535)
	}
	for b := range 16 {
		is(t, api.Phase{Parties: 1 << b}, 1<<(16+b))
		is(t, api.Phase{Over: true, Parties: 65535, Waiting: 1 << b}, 1<<63+65535<<16+1<<b)
	}
}

func TestStatesThatMayNotBe(t *testing.T) {
	for _, n := range []int{math.MinInt, math.MinInt + 1, -1 << 32, -last - 1, -65536, -2, -1} {
		no(t, api.Phase{Phase: n})
		no(t, api.Phase{Phase: n, Parties: 2, Waiting: 2})
		no(t, api.Phase{Parties: n})
		no(t, api.Phase{Parties: n, Waiting: n})
		no(t, api.Phase{Waiting: n})
		no(t, api.Phase{Parties: 5, Waiting: n})
	}
	for _, n := range []int{last + 1, last + 2, 1 << 32, math.MaxInt - 1, math.MaxInt} {
		no(t, api.Phase{Phase: n})
		no(t, api.Phase{Phase: n, Parties: 2, Waiting: 2})
	}
	for _, n := range []int{65536, 65537, 1 << 32, math.MaxInt} {
		no(t, api.Phase{Parties: n})
		no(t, api.Phase{Parties: n, Waiting: 1})
		no(t, api.Phase{Parties: n, Waiting: n})
		no(t, api.Phase{Parties: 65535, Waiting: n})
	}
}

func TestNoMoreWaitThanThereAre(t *testing.T) {
	for _, parties := range []int{0, 1, 2, 3, 255, 256, 32767, 32768, 65534, 65535} {
		for _, waiting := range []int{parties - 1, parties, parties + 1, parties + 2, 65535} {
			p := api.Phase{Over: true, Phase: 7, Parties: parties, Waiting: waiting}
			w := 1<<63 + 7<<32 + uint64(parties)<<16 + uint64(waiting)
			if 0 <= waiting && waiting <= parties {
				is(t, p, w)
				continue
			}
			no(t, p)
			// Of these alone a word has room for how many wait.
			if 0 <= waiting && waiting <= 65535 {
				none(t, w)
			}
		}
	}
}

func TestWordsThatAreNone(t *testing.T) {
	for _, w := range []uint64{1, 3, 65535, 65538, 2<<16 + 3, 65534<<16 + 65535} {
		none(t, w)
		none(t, w+1<<63)
		none(t, w+1<<32)
		none(t, w+last<<32)
		none(t, w+1<<63+last<<32)
	}
	// How many wait is more than how many there are, whatever the phase is.
	none(t, math.MaxUint64-1<<16)
	none(t, math.MaxUint64-1<<31)
}

// wordIs checks that a word is the state's that it is put together of, or none.
func wordIs(t *testing.T, w uint64) {
	t.Helper()
	p := api.Phase{
		Over:    w >= 1<<63,
		Phase:   int(w % (1 << 63) / (1 << 32)),
		Parties: int(w % (1 << 32) / (1 << 16)),
		Waiting: int(w % (1 << 16)),
	}
	if p.Waiting > p.Parties {
		none(t, w)
		no(t, p)
		return
	}
	is(t, p, w)
}

func TestAnyWord(t *testing.T) {
	for b := range 64 {
		for c := range b + 1 {
			wordIs(t, 1<<b|1<<c)
			wordIs(t, ^uint64(1<<b|1<<c))
			wordIs(t, 1<<b-1<<c)
		}
	}
	random := rand.New(rand.NewSource(1))
	for range 200_000 {
		w := random.Uint64()
		wordIs(t, w)
		wordIs(t, bits.ReverseBytes64(w)>>random.Intn(64))
	}
}

func TestAllStatesOfFew(t *testing.T) {
	words := map[uint64]api.Phase{}
	for _, over := range []bool{false, true} {
		for phase := range 5 {
			for parties := range 40 {
				for waiting := range parties + 1 {
					p := api.Phase{Over: over, Phase: phase, Parties: parties, Waiting: waiting}
					w, err := packed.Word(p)
					if q, twice := words[w]; twice || err != nil {
						t.Fatalf("%v and %v are %d, %v", p, q, w, err)
					}
					words[w] = p
					wordIs(t, w)
				}
			}
		}
	}
}
