package judge_test

import (
	"math"
	"math/rand"
	"slices"
	"testing"

	"quadrille/api"
	"quadrille/judge"
	"quadrille/plain"
)

// came and gone are events.
func came(thread, value int) api.Event {
	return api.Event{What: api.Came, Thread: thread, Value: value}
}
func gone(thread, value int) api.Event {
	return api.Event{What: api.Gone, Thread: thread, Value: value}
}

// verdict is what Check and Rounds are to tell: an Errno, its place (-1: none), and how many rounds.
type verdict struct {
	wrong     api.Errno
	place     int
	all, some int
}

// right is the verdict where nothing is wrong.
func right(all, some int) verdict { return verdict{api.OK, -1, all, some} }

// wrong is the verdict where an event is wrong.
func wrong(e api.Errno, place int) verdict { return verdict{wrong: e, place: place} }

// judges checks what Check and Rounds tell.
func judges(t *testing.T, l []api.Event, n int, want verdict) {
	t.Helper()
	was := slices.Clone(l)
	if e, place := plain.Place(judge.Check(l, n)); e != want.wrong || place != want.place {
		t.Errorf("check %v of %d: got error %d at %d, want %d at %d", l, n, e, place, want.wrong, want.place)
	}
	all, some, err := judge.Rounds(l, n)
	e, place := plain.Place(err)
	if got := (verdict{e, place, all, some}); got != want {
		t.Errorf("rounds %v of %d: got %v, want %v", l, n, got, want)
	}
	if !slices.Equal(l, was) {
		t.Errorf("%v of %d: written into", was, n)
	}
}

// round is one that n come to, and go of, as they stand.
func round(n, value int) []api.Event {
	var l []api.Event
	for thread := range n {
		l = append(l, came(thread, value))
	}
	for thread := range n {
		l = append(l, gone(thread, value))
	}
	return l
}

func TestHowManyThereMayBe(t *testing.T) {
	for n := 1; n <= api.MaxThreads; n++ {
		judges(t, nil, n, right(0, 0))
		judges(t, []api.Event{}, n, right(0, 0))
		judges(t, append(round(n, 1), round(n, 2)...), n, right(2, 2))
		judges(t, []api.Event{came(n-1, 1)}, n, right(0, 1))
		judges(t, []api.Event{came(n, 1)}, n, wrong(api.ErrRange, 0))
	}
	for _, n := range []int{math.MinInt, -1, 0, 17, 18, math.MaxInt} {
		judges(t, nil, n, wrong(api.ErrRange, -1))
		judges(t, round(1, 1), n, wrong(api.ErrRange, -1))
		judges(t, []api.Event{{What: api.Told}}, n, wrong(api.ErrRange, -1))
	}
}

func TestWhatIsWrongWithAnEvent(t *testing.T) {
	for _, what := range []int{math.MinInt, -1, 0, api.Told, 4, math.MaxInt} {
		judges(t, []api.Event{came(0, 1), {What: what, Thread: 1, Value: 1}}, 2, wrong(api.ErrArg, 1))
		judges(t, []api.Event{{What: what, Thread: 2, Value: 1}}, 2, wrong(api.ErrArg, 0))
	}
	for _, thread := range []int{math.MinInt, -1, 2, 3, 16, math.MaxInt} {
		judges(t, []api.Event{came(0, 1), came(thread, 1)}, 2, wrong(api.ErrRange, 1))
		judges(t, []api.Event{gone(thread, 9)}, 2, wrong(api.ErrRange, 0))
	}
	for _, value := range []int{math.MinInt, -1, 0, 2, 3, math.MaxInt} {
		judges(t, []api.Event{came(1, value)}, 2, wrong(api.ErrOrder, 0))
		judges(t, []api.Event{gone(1, value)}, 2, wrong(api.ErrOrder, 0))
		judges(t, []api.Event{came(1, 1), gone(1, value)}, 2, wrong(api.ErrOrder, 1))
	}
}

func TestWhatAThreadIsToSayNext(t *testing.T) {
	judges(t, []api.Event{gone(0, 1)}, 1, wrong(api.ErrOrder, 0))
	judges(t, []api.Event{came(0, 1), came(0, 1)}, 1, wrong(api.ErrOrder, 1))
	judges(t, []api.Event{came(0, 1), came(0, 2)}, 1, wrong(api.ErrOrder, 1))
	judges(t, []api.Event{came(0, 1), gone(0, 2)}, 1, wrong(api.ErrOrder, 1))
	judges(t, []api.Event{came(0, 1), gone(0, 1), gone(0, 1)}, 1, wrong(api.ErrOrder, 2))
	judges(t, []api.Event{came(0, 1), gone(0, 1), came(0, 1)}, 1, wrong(api.ErrOrder, 2))
	judges(t, []api.Event{came(0, 1), gone(0, 1), came(0, 3)}, 1, wrong(api.ErrOrder, 2))
	judges(t, []api.Event{came(0, 1), gone(0, 1), came(0, 2), gone(0, 2)}, 1, right(2, 2))
	// What another one said is no matter of this one's.
	judges(t, []api.Event{came(0, 1), came(1, 2)}, 2, wrong(api.ErrOrder, 1))
	judges(t, []api.Event{came(0, 1), gone(1, 1)}, 2, wrong(api.ErrOrder, 1))
}

func TestNobodyGoesAheadOfOneWhoComes(t *testing.T) {
	judges(t, []api.Event{came(0, 1), gone(0, 1)}, 2, wrong(api.ErrFalse, 1))
	judges(t, []api.Event{came(1, 1), gone(1, 1)}, 2, wrong(api.ErrFalse, 1))
	judges(t, []api.Event{came(0, 1), came(2, 1), gone(2, 1), came(1, 1)}, 3, wrong(api.ErrFalse, 2))
	judges(t, []api.Event{came(0, 1), came(2, 1), came(1, 1), gone(2, 1)}, 3, right(0, 1))
	// Of the round ahead all came, and of this one not.
	judges(t, append(round(2, 1), came(1, 2), gone(1, 2)), 2, wrong(api.ErrFalse, 5))
	judges(t, append(round(2, 1), came(1, 2), came(0, 2), gone(1, 2)), 2, right(1, 2))
	// One who comes to the next round came to this one, though it is gone.
	judges(t, []api.Event{came(0, 1), came(1, 1), gone(0, 1), came(0, 2), gone(1, 1)}, 2, right(1, 2))
	judges(t, []api.Event{came(0, 1), came(1, 1), gone(0, 1), came(0, 2), gone(0, 2)}, 2, wrong(api.ErrFalse, 4))
	all := slices.DeleteFunc(round(16, 1), func(e api.Event) bool { return e == came(7, 1) })
	judges(t, all, 16, wrong(api.ErrFalse, 15))
}

func TestTheFirstWrongEventIsTold(t *testing.T) {
	judges(t, []api.Event{came(0, 1), gone(0, 1), {}, came(9, 1), gone(1, 7)}, 2, wrong(api.ErrFalse, 1))
	judges(t, []api.Event{came(0, 1), came(9, 1), {}, gone(0, 1)}, 2, wrong(api.ErrRange, 1))
	judges(t, append(round(2, 1), gone(0, 2), api.Event{}), 2, wrong(api.ErrOrder, 4))
}

func TestWhenIsNoMatter(t *testing.T) {
	l := round(2, 1)
	for i, when := range []int{5, -1, 0, 5} {
		l[i].When = when
	}
	judges(t, l, 2, right(1, 1))
}

func TestWhatStandsBehindTheListIsNoMatter(t *testing.T) {
	l := append(round(2, 1), gone(1, 9))
	judges(t, l[:4], 2, right(1, 1))
	judges(t, l[:3], 2, right(0, 1))
	if l[4] != gone(1, 9) {
		t.Errorf("written into: %v", l)
	}
}

func TestRoundsOfAllAndOfAny(t *testing.T) {
	l := append(round(3, 1), round(3, 2)...)
	for k, want := range [][2]int{{0, 0}, {0, 1}, {0, 1}, {0, 1}, {0, 1}, {0, 1}, {1, 1}, {1, 2}, {1, 2}, {1, 2}, {1, 2}, {1, 2}, {2, 2}} {
		judges(t, l[:k], 3, right(want[0], want[1]))
	}
	var many []api.Event
	for value := 1; value <= 2000; value++ {
		many = append(many, round(2, value)...)
	}
	judges(t, many, 2, right(2000, 2000))
	judges(t, many[:7999], 2, right(1999, 2000))
	judges(t, many, 3, wrong(api.ErrFalse, 2))
}

// model is 13.1 as plainly as it is told: it looks at all that was said ahead, again and again.
func model(l []api.Event, n int) verdict {
	for i, e := range l {
		if w := first(l[:i], e, n); w != api.OK {
			return wrong(w, i)
		}
	}
	want := right(0, 0)
	for _, e := range l {
		want.some = max(want.some, e.Value)
		if e.Value > want.all && says(l, gone, n, e.Value) {
			want.all = e.Value
		}
	}
	return want
}

// first is what is wrong with an event, in the order in which it is told.
func first(ahead []api.Event, e api.Event, n int) api.Errno {
	if e.What != 1 && e.What != 2 {
		return api.ErrArg
	}
	if e.Thread < 0 || e.Thread > n-1 {
		return api.ErrRange
	}
	var to []api.Event
	for value := 1; value <= len(ahead)+1; value++ {
		to = append(to, came(e.Thread, value), gone(e.Thread, value))
	}
	for _, a := range ahead {
		if a.Thread == e.Thread {
			to = to[1:]
		}
	}
	if e != to[0] {
		return api.ErrOrder
	}
	if e.What == 2 && !says(ahead, came, n, e.Value) {
		return api.ErrFalse
	}
	return api.OK
}

// says is whether each of n said a word of a value.
func says(l []api.Event, word func(thread, value int) api.Event, n, value int) bool {
	for thread := range n {
		if !slices.Contains(l, word(thread, value)) {
			return false
		}
	}
	return true
}

func TestListsOfUpToEight(t *testing.T) {
	var events []api.Event
	for what := api.Came; what <= api.Told; what++ {
		for thread := range 3 {
			for value := 1; value <= 2; value++ {
				events = append(events, api.Event{What: what, Thread: thread, Value: value})
			}
		}
	}
	var try func(l []api.Event, n, more int)
	try = func(l []api.Event, n, more int) {
		want := model(l, n)
		judges(t, l, n, want)
		// What stands behind what is wrong is no matter: two events more are enough to see that.
		if more == 0 || want.wrong != api.OK && len(l) > 2 {
			return
		}
		for _, e := range events {
			try(append(slices.Clip(l), e), n, more-1)
		}
	}
	for n := 1; n <= 3; n++ {
		try(nil, n, 8)
	}
}

func TestSomeListsOfMany(t *testing.T) {
	random := rand.New(rand.NewSource(1))
	for range 3000 {
		n := 1 + random.Intn(6)
		said := make([]int, n)
		var l []api.Event
		for range random.Intn(60) {
			thread := random.Intn(n)
			// Mostly one that may say something goes on; now and then anybody does.
			if said[thread]%2 == 1 && slices.Min(said) < said[thread] && random.Intn(30) > 0 {
				thread = slices.Index(said, slices.Min(said))
			}
			e := api.Event{When: random.Intn(3), What: api.Came + said[thread]%2, Thread: thread, Value: said[thread]/2 + 1}
			if random.Intn(100) == 0 {
				e.Value += random.Intn(3) - 1
			}
			said[thread]++
			l = append(l, e)
		}
		at := slices.Clone(l)
		for i := range at {
			at[i].When = 0 // of which the model has none
		}
		judges(t, l, n, model(at, n))
	}
}
