package gather_test

import (
	"regexp"
	"slices"
	"strconv"
	"strings"
	"testing"

	"quadrille/api"
	"quadrille/code"
	"quadrille/core"
	"quadrille/gather"
	"quadrille/trial"
)

// Calls and pieces, as the document writes them; p is where these, or a piece's, begin.
const (
	registerText = "OVER p+11; field 2 1 16 16; let 3 65535-N; less 3 2 p+13; plus 4 1 65537N; swap 3 0 1 4; same 3 0 p; field 2 1 32 31; jump p+14; let 2 -1; jump p+14; let 2 -3; say 3 2"
	closeText    = "OVER p+9; plus 4 1 -9223372036854775808; swap 3 0 1 4; same 3 0 p; wake 0 16 -1; let 2 0; jump p+10; let 2 -1; say 3 2"
	watchText    = "let 5 N; UNTIL"
	arriveText   = "COME -1 p+30; copy 2 5; say 3 2"
	leaveText    = "COME -65537 p+30; copy 2 5; say 3 2"
	passText     = "COME -1 p+38; UNTIL"

	overText  = "load 1 0; field 2 1 63 1; same 2 1 q"
	untilText = "OVER p+8; field 2 1 32 31; equal 2 5 p+6; jump p+9; wait 0 1; jump p; let 2 -1; say 3 2"
	comeText  = "OVER p+25; field 2 1 0 16; same 2 0 p+27; plus 4 1 m; same 2 1 p+8; jump p+18; field 3 4 16 16; same 3 0 p+17; sum 4 4 3; field 3 1 32 31; same 3 2147483647 p+15; plus 4 4 4294967296; jump p+18; " +
		"plus 4 4 -9223372032559808512; jump p+18; plus 4 4 -9223372036854775808; swap 3 0 1 4; same 3 0 p; field 5 1 32 31; same 2 1 p+23; jump p+29; wake 0 16 -1; jump p+29; let 2 -1; jump q; let 2 -2; jump q"
)

// kind is how these programs are made, and how the document writes their calls.
var kind = trial.Calls{Code: gather.Code, Text: text}

// text is that of a call, its pieces written out; "" is no call.
func text(c api.Call) string {
	n := strconv.Itoa(c.N)
	switch {
	case c.What == api.Register && c.N >= 1 && c.N <= 65535:
		return whole(strings.NewReplacer("65535-N", strconv.Itoa(65535-c.N), "65537N", strconv.Itoa(65537*c.N)).Replace(registerText))
	case c.What == api.Watch && c.N >= 0 && c.N <= 2147483647:
		return whole(strings.ReplaceAll(watchText, "N;", n+";"))
	case c.N == 0:
		return whole(map[int]string{api.Arrive: arriveText, api.Leave: leaveText, api.Pass: passText, api.Close: closeText}[c.What])
	}
	return ""
}

// whole is a text whose pieces are written out, place by place.
func whole(text string) string {
	var l []string
	for _, s := range strings.Split(text, "; ") {
		words := strings.Split(s, " ")
		switch words[0] {
		case "OVER":
			s = strings.ReplaceAll(overText, "1 q", "1 "+words[1])
		case "UNTIL":
			s = behind(len(l), whole(untilText))
		case "COME":
			s = behind(len(l), whole(strings.ReplaceAll(comeText, "1 m", "1 "+words[1])))
			// What q is the call tells, of whose own beginning it is.
			s = strings.ReplaceAll(s, "jump q", "jump "+words[2])
		}
		l = append(l, strings.Split(s, "; ")...)
	}
	return strings.Join(l, "; ")
}

// place is where a text tells of a place.
var place = regexp.MustCompile(`\bp(\+\d+)?\b`)

// behind is a text whose p is so much more.
func behind(n int, text string) string {
	return place.ReplaceAllStringFunc(text, func(s string) string {
		more, _ := strconv.Atoi(strings.TrimPrefix(strings.TrimPrefix(s, "p"), "+"))
		return "p+" + strconv.Itoa(more+n)
	})
}

// printed checks what a program is, in the document's words.
func printed(t *testing.T, want string, l ...api.Call) {
	t.Helper()
	p, err := gather.Code(l)
	if got, _ := code.Print(p); got != strings.ReplaceAll(want, "; ", "\n")+"\n" || err != nil {
		t.Errorf("%v: got %q, %v", l, got, err)
	}
}

func TestFace(t *testing.T) {
	if wrong := kind.Face(); wrong != "" {
		t.Error(wrong)
	}
}

func TestCodeOfEachCall(t *testing.T) {
	printed(t, "halt")
	printed(t, "load 1 0; field 2 1 63 1; same 2 1 11; field 2 1 16 16; let 3 65528; less 3 2 13; plus 4 1 458759; swap 3 0 1 4; same 3 0 0; field 2 1 32 31; jump 14; let 2 -1; jump 14; let 2 -3; say 3 2; halt",
		api.Call{What: api.Register, N: 7})
	printed(t, "load 1 0; field 2 1 63 1; same 2 1 9; plus 4 1 -9223372036854775808; swap 3 0 1 4; same 3 0 0; wake 0 16 -1; let 2 0; jump 10; let 2 -1; say 3 2; halt",
		api.Call{What: api.Close})
	printed(t, "let 5 12; load 1 0; field 2 1 63 1; same 2 1 9; field 2 1 32 31; equal 2 5 7; jump 10; wait 0 1; jump 1; let 2 -1; say 3 2; halt",
		api.Call{What: api.Watch, N: 12})
	const came = "plus 4 1 %; same 2 1 8; jump 18; field 3 4 16 16; same 3 0 17; sum 4 4 3; field 3 1 32 31; same 3 2147483647 15; plus 4 4 4294967296; jump 18; " +
		"plus 4 4 -9223372032559808512; jump 18; plus 4 4 -9223372036854775808; swap 3 0 1 4; same 3 0 0; field 5 1 32 31; same 2 1 23; jump 29; wake 0 16 -1; jump 29; let 2 -1; "
	const looked = "load 1 0; field 2 1 63 1; same 2 1 25; field 2 1 0 16; same 2 0 27; "
	printed(t, looked+strings.Replace(came, "%", "-1", 1)+"jump 30; let 2 -2; jump 30; copy 2 5; say 3 2; halt", api.Call{What: api.Arrive})
	printed(t, looked+strings.Replace(came, "%", "-65537", 1)+"jump 30; let 2 -2; jump 30; copy 2 5; say 3 2; halt", api.Call{What: api.Leave})
	printed(t, looked+strings.Replace(came, "%", "-1", 1)+"jump 38; let 2 -2; jump 38; "+
		"load 1 0; field 2 1 63 1; same 2 1 37; field 2 1 32 31; equal 2 5 35; jump 38; wait 0 1; jump 29; let 2 -1; say 3 2; halt", api.Call{What: api.Pass})
}

func TestCodeOfOneCallBehindAnother(t *testing.T) {
	printed(t, "load 1 0; field 2 1 63 1; same 2 1 9; plus 4 1 -9223372036854775808; swap 3 0 1 4; same 3 0 0; wake 0 16 -1; let 2 0; jump 10; let 2 -1; say 3 2; "+
		"let 5 0; load 1 0; field 2 1 63 1; same 2 1 20; field 2 1 32 31; equal 2 5 18; jump 21; wait 0 1; jump 12; let 2 -1; say 3 2; "+
		"load 1 0; field 2 1 63 1; same 2 1 33; field 2 1 16 16; let 3 0; less 3 2 35; plus 4 1 4294967295; swap 3 0 1 4; same 3 0 22; field 2 1 32 31; jump 36; let 2 -1; jump 36; let 2 -3; say 3 2; halt",
		api.Call{What: api.Close}, api.Call{What: api.Watch}, api.Call{What: api.Register, N: 65535})
}

func TestCodeOfManyNumbers(t *testing.T) {
	for n := -3; n < 70000; n += 7 {
		if wrong := kind.Has(api.Call{What: api.Register, N: n}, api.Call{What: api.Watch, N: n}); wrong != "" {
			t.Fatal(wrong)
		}
	}
	for bit := range 63 {
		for n := 1<<bit - 2; n <= 1<<bit+2; n++ {
			for _, n := range []int{n, -n} {
				if wrong := kind.Has(api.Call{What: api.Register, N: n}) + kind.Has(api.Call{What: api.Watch, N: n}); wrong != "" {
					t.Fatal(wrong)
				}
			}
		}
	}
}

func TestCodeIsOfOneCell(t *testing.T) {
	for what, want := range map[int]int{api.Register: 181, api.Close: 133, api.Watch: 133, api.Arrive: 373, api.Leave: 373, api.Pass: 469} {
		c := api.Call{What: what}
		if what == api.Register {
			c.N = 1
		}
		p, err := gather.Code(slices.Repeat([]api.Call{c}, api.MaxCalls))
		if err != nil || len(p) != want {
			t.Fatalf("%d: got %d instructions, %v, want %d", what, len(p), err, want)
		}
		if _, err := core.New([][]api.Ins{p}, make([]uint64, 1)); err != nil {
			t.Error(err)
		}
	}
}
