package story_test

import (
	"fmt"
	"math"
	"math/rand"
	"regexp"
	"slices"
	"strconv"
	"strings"
	"testing"

	"quadrille/api"
	"quadrille/dance"
	"quadrille/fair"
	"quadrille/plain"
	"quadrille/story"
)

// far are numbers that are no thread's, and nothing that is said.
var far = []int{math.MinInt, -1, 16, 17, math.MaxInt}

// event is one.
func event(when, what, thread, value int) api.Event {
	return api.Event{When: when, What: what, Thread: thread, Value: value}
}

// tells checks an error's Errno, and its place (-1: none).
func tells(t *testing.T, name string, err error, want api.Errno, place int) {
	t.Helper()
	if e, at := plain.Place(err); e != want || at != place {
		t.Errorf("%.200s: got error %d at %d, want %d at %d", name, e, at, want, place)
	}
}

// is checks that events may be, and what text they are, and that it is these events.
func is(t *testing.T, l []api.Event, want string) {
	t.Helper()
	was := slices.Clone(l)
	if !story.Right(l) {
		t.Errorf("%v aren't right", l)
	}
	s, err := story.Print(l)
	tells(t, want, err, api.OK, -1)
	if s != want {
		t.Errorf("print %v: got %q, want %q", l, s, want)
	}
	if !slices.Equal(l, was) {
		t.Errorf("%v: written into", was)
	}
	back, err := story.Parse(want)
	tells(t, want, err, api.OK, -1)
	if !slices.Equal(back, was) {
		t.Errorf("parse %q: got %v, want %v", want, back, was)
	}
}

// no checks that events may not be.
func no(t *testing.T, l ...api.Event) {
	t.Helper()
	if story.Right(l) {
		t.Errorf("%v are right", l)
	}
	s, err := story.Print(l)
	tells(t, fmt.Sprint(l), err, api.ErrArg, -1)
	if s != "" {
		t.Errorf("print %v: %q beside an error", l, s)
	}
}

func TestExample(t *testing.T) {
	is(t, []api.Event{event(3, api.Came, 1, 2)}, "3 came 1 2\n")
	is(t, []api.Event{event(3, api.Came, 1, 2), event(4, api.Gone, 0, 1), event(7, api.Told, 15, -4)}, "3 came 1 2\n4 gone 0 1\n7 told 15 -4\n")
}

func TestNothingIsNoText(t *testing.T) {
	is(t, nil, "")
	is(t, []api.Event{}, "")
}

func TestWhenIsAboveTheOneAhead(t *testing.T) {
	for _, when := range []int{1, 2, 10, 20000, 20001, math.MaxInt} {
		is(t, []api.Event{event(when, 1, 0, 0)}, strconv.Itoa(when)+" came 0 0\n")
	}
	for _, when := range []int{math.MinInt, -1, 0} {
		no(t, event(when, 1, 0, 0))
		no(t, event(when, 1, 0, 0), event(1, 1, 0, 0))
		no(t, event(1, 1, 0, 0), event(when, 1, 0, 0))
	}
	is(t, []api.Event{event(1, 1, 0, 0), event(2, 1, 0, 0), event(math.MaxInt, 1, 0, 0)}, "1 came 0 0\n2 came 0 0\n9223372036854775807 came 0 0\n")
	no(t, event(2, 1, 0, 0), event(2, 1, 1, 1))
	no(t, event(2, 1, 0, 0), event(1, 1, 0, 0))
	no(t, event(5, 1, 0, 0), event(7, 1, 0, 0), event(6, 1, 0, 0))
	no(t, event(math.MaxInt, 1, 0, 0), event(math.MaxInt, 1, 0, 0))
}

func TestWhatIsCameGoneOrTold(t *testing.T) {
	for what, name := range map[int]string{1: "came", 2: "gone", 3: "told"} {
		is(t, []api.Event{event(1, what, 0, 0)}, "1 "+name+" 0 0\n")
	}
	for _, what := range append(far, 0, 4, 5) {
		no(t, event(1, what, 0, 0))
		no(t, event(1, 1, 0, 0), event(2, 2, 0, 0), event(3, what, 0, 0))
	}
}

func TestThreadIsOneThatMayBe(t *testing.T) {
	for thread := range 16 {
		is(t, []api.Event{event(1, 2, thread, 0)}, "1 gone "+strconv.Itoa(thread)+" 0\n")
	}
	for _, thread := range far {
		no(t, event(1, 2, thread, 0))
		no(t, event(1, 2, 0, 0), event(2, 2, thread, 0))
	}
}

func TestValueIsAny(t *testing.T) {
	for _, value := range []int{math.MinInt, math.MinInt + 1, -10, -1, 0, 1, 10, 65535, math.MaxInt - 1, math.MaxInt} {
		is(t, []api.Event{event(1, 3, 0, value)}, "1 told 0 "+strconv.Itoa(value)+"\n")
	}
}

func TestThereMayBeMany(t *testing.T) {
	var l []api.Event
	want := ""
	for i := range 3000 {
		l = append(l, event(i*i+1, i%3+1, i%16, i-9))
		want += fmt.Sprintf("%d %s %d %d\n", i*i+1, [3]string{"came", "gone", "told"}[i%3], i%16, i-9)
	}
	is(t, l, want)
	l[2999].Thread = 16
	no(t, l...)
}

// isNone checks that a text's line isn't right behind some lines that are, the last one of which is of When 3, and what stands behind it is no matter.
func isNone(t *testing.T, line string) {
	t.Helper()
	for place, ahead := range []string{"", "3 told 4 5\n", "1 came 0 0\n3 gone 1 1\n"} {
		for _, behind := range []string{"", "9 came 1 1\n", "none\n"} {
			s := ahead + line + behind
			l, err := story.Parse(s)
			tells(t, strconv.Quote(s), err, api.ErrForm, place)
			if l != nil {
				t.Errorf("parse %q: %v beside an error", s, l)
			}
		}
	}
}

func TestALineIsAnEvent(t *testing.T) {
	for _, line := range []string{
		"", " ", "4", "4 came", "4 came 1", "4 came 1 ", "4 came 1 2 ", "4 came 1 2 3", " 4 came 1 2", "4  came 1 2", "4 came  1 2", "4 came 1  2", "4\tcame 1 2", "4 came 1 2\r",
		"4 saw 1 2", "4 Came 1 2", "4 CAME 1 2", "4 cam 1 2", "4 camel 1 2", "4 1 1 2", "4  1 2", "came 4 1 2", "4 came 1,2", "4 came 1 2\x00", "\xff4 came 1 2", "4 came 1 2 came", "4 \u00e7ame 1 2",
		"4 came gone 1", "4 came 1 gone", "none none none none",
	} {
		isNone(t, line+"\n")
	}
}

func TestANumberIsDecimal(t *testing.T) {
	for _, word := range []string{"", "-", "+4", "-0", "00", "04", "-04", "0x4", "4e0", "4.0", "4_0", "x", "4x", "\u0664", "9223372036854775808", "-9223372036854775809", "18446744073709551620", strings.Repeat("4", 5000)} {
		isNone(t, word+" came 1 2\n")
		isNone(t, "4 gone "+word+" 2\n")
		isNone(t, "4 told 1 "+word+"\n")
	}
}

func TestEventsAreRightUpToEachLine(t *testing.T) {
	for _, line := range []string{"0 came 1 2", "-1 came 1 2", "-9223372036854775808 came 1 2", "4 gone -1 2", "4 gone 16 2", "4 told 17 2", "4 told 9223372036854775807 2"} {
		isNone(t, line+"\n")
	}
	for _, x := range []struct {
		s     string
		place int
	}{
		{"3 came 1 2\n3 gone 1 2\n", 1}, {"3 came 1 2\n2 gone 1 2\n9 told 16 0\n", 1}, {"1 came 0 0\n2 came 0 0\n2 came 0 0\n1 came 0 0\n", 2}, {"1 came 0 0\n5 came 16 0\n", 1},
		{"9223372036854775807 came 0 0\n9223372036854775807 came 0 0\n", 1}, {"9223372036854775807 came 0 0\n-9223372036854775808 came 0 0\n", 1},
	} {
		_, err := story.Parse(x.s)
		tells(t, x.s, err, api.ErrForm, x.place)
	}
}

func TestEachLineHasALineFeed(t *testing.T) {
	for _, line := range []string{"4 came 1 2", "4", "4 came 1 2\n5 came 1 2"} {
		l, err := story.Parse(line)
		tells(t, line, err, api.ErrForm, strings.Count(line, "\n"))
		if l != nil {
			t.Errorf("%v beside an error", l)
		}
	}
	_, err := story.Parse("1 came 0 0\n2 came 0 0\n3 came 0 0")
	tells(t, "three", err, api.ErrForm, 2)
	for _, s := range []string{"\n", "\n1 came 0 0\n", "\n\n"} {
		_, err := story.Parse(s)
		tells(t, strconv.Quote(s), err, api.ErrForm, 0)
	}
	_, err = story.Parse("1 came 0 0\n\n")
	tells(t, "an empty line", err, api.ErrForm, 1)
}

// first is the first line of a text, whose numbers are short, with which it is no text of events any more (-1: none).
func first(form *regexp.Regexp, s string) int {
	ahead := 0
	for place, line := range strings.SplitAfter(s, "\n") {
		if line == "" {
			break
		}
		words := form.FindStringSubmatch(line)
		if words == nil {
			return place
		}
		when, _ := strconv.Atoi(words[1])
		if when <= ahead {
			return place
		}
		ahead = when
	}
	return -1
}

// TestAllTextsNearby changes each byte of a text to others, takes it away, and puts others there: what is parsed is what is printed so, and nothing else.
func TestAllTextsNearby(t *testing.T) {
	form := regexp.MustCompile(`\A([1-9][0-9]*) (?:came|gone|told) (?:[0-9]|1[0-5]) (?:0|-?[1-9][0-9]*)\n\z`)
	text := "3 came 1 2\n14 gone 10 -30\n20 told 15 0\n100 came 0 7\n"
	for i := range len(text) + 1 {
		for c := range 256 {
			nearby(t, form, text[:i]+string([]byte{byte(c)})+text[i:])
			if i < len(text) {
				nearby(t, form, text[:i]+string([]byte{byte(c)})+text[i+1:])
			}
		}
		nearby(t, form, text[:i])
		nearby(t, form, text[i:])
		if i < len(text) {
			nearby(t, form, text[:i]+text[i+1:])
		}
	}
}

// nearby checks one of the texts.
func nearby(t *testing.T, form *regexp.Regexp, s string) {
	t.Helper()
	l, err := story.Parse(s)
	if place := first(form, s); place >= 0 {
		tells(t, strconv.Quote(s), err, api.ErrForm, place)
		if l != nil {
			t.Errorf("parse %q: %v beside an error", s, l)
		}
		return
	}
	tells(t, strconv.Quote(s), err, api.OK, -1)
	is(t, l, s)
}

func TestWhatMachinesSayIsRight(t *testing.T) {
	random := rand.New(rand.NewSource(1))
	for k := api.Central; k < api.Kinds; k++ {
		for n := 1; n <= api.MaxThreads; n++ {
			c, err := dance.New(k, n, 2)
			tells(t, "new", err, api.OK, -1)
			for range 200 {
				_ = c.Step(random.Intn(n))
			}
			fair.Finish(c)
			s, err := story.Print(c.Events())
			tells(t, "print", err, api.OK, -1)
			is(t, c.Events(), s)
		}
	}
}

func TestWhatStandsBehindTheListIsNoMatter(t *testing.T) {
	l := []api.Event{event(1, 1, 0, 0), event(1, 9, 99, 0)}
	is(t, l[:1], "1 came 0 0\n")
	if l[1] != event(1, 9, 99, 0) {
		t.Errorf("written into: %v", l)
	}
}

func TestWhatComesOutIsFresh(t *testing.T) {
	s := "1 came 0 0\n2 gone 0 0\n"
	l, _ := story.Parse(s)
	l[0] = event(9, 9, 9, 9)
	is(t, []api.Event{event(1, 1, 0, 0), event(2, 2, 0, 0)}, s)
}
