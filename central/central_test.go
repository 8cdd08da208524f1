package central_test

import (
	"fmt"
	"math"
	"math/rand"
	"slices"
	"strings"
	"testing"

	"quadrille/api"
	"quadrille/central"
	"quadrille/code"
	"quadrille/plain"
	"quadrille/trial"
)

// numbers are those around what may be, and the outermost.
func numbers() []int {
	l := []int{math.MinInt, math.MinInt + 1, math.MaxInt - 1, math.MaxInt}
	for k := -3; k <= 25; k++ {
		l = append(l, k)
	}
	return l
}

// tells checks which Errno an error is, and that it has no place.
func tells(t *testing.T, name string, err error, want api.Errno) {
	t.Helper()
	if got, place := plain.Place(err); got != want || place != -1 {
		t.Errorf("%s: got error %d at %d, want %d without a place", name, got, place, want)
	}
}

func TestCellsAreTwo(t *testing.T) {
	for _, n := range numbers() {
		want, errno := 2, api.OK
		if n < 1 || n > api.MaxThreads {
			want, errno = 0, api.ErrRange
		}
		got, err := central.Cells(n)
		tells(t, fmt.Sprint("cells ", n), err, errno)
		if got != want {
			t.Errorf("cells %d: got %d, want %d", n, got, want)
		}
	}
}

func TestCodeIsThatText(t *testing.T) {
	const whole = "let 0 1; let 7 ROUNDS; less 0 7 4; halt; say 1 0; " +
		"fetch 1 0 1; same 1 LAST 13; " +
		"load 1 1; less 1 0 10; jump 12; wait 1 1; jump 7; " +
		"jump 17; let 2 0; store 0 2 -1; " +
		"store 1 0 -1; wake 1 ALL -1; " +
		"say 2 0; plus 0 0 1; jump 2; "
	for n := 1; n <= api.MaxThreads; n++ {
		for id := range n {
			for rounds := range api.MaxRounds + 1 {
				name := fmt.Sprint("code ", n, id, rounds)
				l, err := central.Code(n, id, rounds)
				tells(t, name, err, api.OK)
				tells(t, name, code.Right(l, 2), api.OK)
				text := strings.NewReplacer("ROUNDS", fmt.Sprint(rounds+1), "LAST", fmt.Sprint(n-1), "ALL", fmt.Sprint(n), "; ", "\n").Replace(whole)
				// What a line doesn't name is 0 in what it is read as.
				want, _ := code.Parse(text)
				if !slices.Equal(l, want) {
					got, _ := code.Print(l)
					t.Errorf("%s: got\n%swant\n%s", name, got, text)
				}
			}
		}
	}
}

func TestCodeTellsWhatIsNoParty(t *testing.T) {
	for _, n := range numbers() {
		for _, id := range numbers() {
			for _, rounds := range numbers() {
				want := api.ErrRange
				if n > 0 && n <= 16 && id >= 0 && id < n && rounds >= 0 && rounds <= 20 {
					want = api.OK
				}
				l, err := central.Code(n, id, rounds)
				tells(t, fmt.Sprint("code ", n, id, rounds), err, want)
				if len(l) != 0 != (want == api.OK) {
					t.Fatalf("code %d %d %d: got %v", n, id, rounds, l)
				}
			}
		}
	}
}

func TestCodeIsFresh(t *testing.T) {
	first, _ := central.Code(3, 1, 2)
	want := slices.Clone(first)
	clear(first)
	if got, _ := central.Code(3, 1, 2); !slices.Equal(got, want) {
		t.Errorf("got %v, want %v", got, want)
	}
}

// barrier is one of so many, so many rounds.
func barrier(n, rounds int) trial.Barrier {
	return trial.Barrier{Code: central.Code, N: n, Rounds: rounds, Cells: 2}
}

func TestNobodyGoesAheadInAnyOrder(t *testing.T) {
	for _, b := range []trial.Barrier{barrier(1, 0), barrier(1, 4), barrier(2, 0), barrier(2, 1), barrier(2, 4), barrier(3, 1), barrier(3, 2)} {
		n, wrong := b.All()
		if wrong != "" {
			t.Errorf("%d parties, %d rounds: %s", b.N, b.Rounds, wrong)
		}
		t.Logf("%d parties, %d rounds: %d states", b.N, b.Rounds, n)
	}
}

func TestNobodyGoesAheadOfMany(t *testing.T) {
	for n := 1; n <= api.MaxThreads; n++ {
		for _, rounds := range []int{0, 1, 2, 5, api.MaxRounds} {
			random := rand.New(rand.NewSource(int64(100*n + rounds)))
			for range 20 {
				if wrong := barrier(n, rounds).Some(random.Intn); wrong != "" {
					t.Errorf("%d parties, %d rounds: %s", n, rounds, wrong)
				}
			}
		}
	}
}
