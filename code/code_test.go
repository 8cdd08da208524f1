package code_test

import (
	"fmt"
	"math"
	"regexp"
	"slices"
	"strings"
	"testing"

	"quadrille/api"
	"quadrille/code"
	"quadrille/plain"
)

// table is 3.1's: of each Op its name, and what it has.
var table = []struct {
	op        int
	name, has string
}{
	{api.Halt, "halt", ""}, {api.Let, "let", "RN"}, {api.Copy, "copy", "RR"}, {api.Plus, "plus", "RRN"}, {api.Sum, "sum", "RRR"},
	{api.Field, "field", "RRSW"}, {api.Load, "load", "RM"}, {api.Store, "store", "MRO"}, {api.Fetch, "fetch", "RMN"},
	{api.Swap, "swap", "RMRR"}, {api.Jump, "jump", "P"}, {api.Same, "same", "RNP"}, {api.Less, "less", "RRP"},
	{api.Equal, "equal", "RRP"}, {api.Wait, "wait", "MR"}, {api.Wake, "wake", "MNO"}, {api.Say, "say", "NR"},
}

// noOps are no Ops.
var noOps = []int{math.MinInt, -1, api.Ops, api.Ops + 1, math.MaxInt}

// span is the first and the last number that what an instruction has may be; a blank is what isn't named.
func span(has byte, instructions, cells int) (first, last int) {
	switch has {
	case 'R':
		return 0, 7
	case 'M':
		return 0, cells - 1
	case 'N':
		return math.MinInt, math.MaxInt
	case 'P':
		return 0, instructions - 1
	case 'O':
		return -1, 7
	case 'S':
		return 0, 63
	case 'W':
		return 1, 63
	}
	return 0, 0
}

// ins is an instruction of an Op and four numbers.
func ins(op int, l [4]int) api.Ins { return api.Ins{Op: op, A: l[0], B: l[1], C: l[2], D: l[3]} }

// tells checks an error's Errno, and its place (-1: none).
func tells(t *testing.T, name string, err error, want api.Errno, place int) {
	t.Helper()
	if e, at := plain.Place(err); e != want || at != place {
		t.Errorf("%s: got error %d at %d, want %d at %d", name, e, at, want, place)
	}
}

// right checks what Right says.
func right(t *testing.T, p []api.Ins, cells int, want api.Errno, place int) {
	t.Helper()
	tells(t, fmt.Sprintf("right of %d on %d: %.200s", len(p), cells, fmt.Sprint(p)), code.Right(p, cells), want, place)
}

// halts are so many Halts.
func halts(n int) []api.Ins { return make([]api.Ins, n) }

// at is n Halts, one of which is another instruction.
func at(n, place int, x api.Ins) []api.Ins {
	p := halts(n)
	p[place] = x
	return p
}

// all is one of each Op, each with numbers of its own where it has some.
func all() []api.Ins {
	var p []api.Ins
	for _, row := range table {
		var l [4]int
		for i := range row.has {
			l[i] = 10*row.op + i - 25
		}
		p = append(p, ins(row.op, l))
	}
	return p
}

func TestTheTableHasAllOps(t *testing.T) {
	if len(table) != api.Ops {
		t.Fatalf("%d rows for %d Ops", len(table), api.Ops)
	}
	for i, row := range table {
		if row.op != i {
			t.Errorf("row %d is of Op %d", i, row.op)
		}
	}
}

func TestRightIsOnCellsFrom0ToMaxCells(t *testing.T) {
	for _, cells := range []int{0, 1, 299, api.MaxCells} {
		right(t, halts(1), cells, api.OK, -1)
	}
	for _, cells := range []int{math.MinInt, -1, api.MaxCells + 1, math.MaxInt} {
		right(t, halts(1), cells, api.ErrRange, -1)
		right(t, nil, cells, api.ErrRange, -1)
		right(t, halts(api.MaxIns+1), cells, api.ErrRange, -1)
		right(t, []api.Ins{{Op: -1}}, cells, api.ErrRange, -1)
	}
}

func TestRightIsOfOneToMaxIns(t *testing.T) {
	right(t, nil, 1, api.ErrNone, -1)
	right(t, []api.Ins{}, 0, api.ErrNone, -1)
	for _, n := range []int{1, 2, 599, api.MaxIns} {
		right(t, halts(n), 1, api.OK, -1)
	}
	right(t, halts(api.MaxIns+1), 1, api.ErrLimit, -1)
	right(t, halts(5*api.MaxIns), 1, api.ErrLimit, -1)
	right(t, at(api.MaxIns+1, 0, api.Ins{Op: -1}), 1, api.ErrLimit, -1)
	right(t, at(api.MaxIns+1, 0, api.Ins{Op: api.Halt, A: 1}), 1, api.ErrLimit, -1)
}

// within is an instruction whose numbers may all be so, in a program of one instruction or more on one cell or more.
func within(op int, has string) [4]int {
	var l [4]int
	for i := range has {
		l[i], _ = span(has[i], 1, 1)
	}
	return l
}

// TestRightOfEachNumber lets each number of each Op be the first and the last that it may be, those beside them, and far ones.
func TestRightOfEachNumber(t *testing.T) {
	for _, size := range []struct{ n, place, cells int }{{2, 0, 1}, {3, 1, 7}, {9, 4, api.MaxCells}, {api.MaxIns, 598, 2}, {api.MaxIns, 0, 299}} {
		for _, row := range table {
			for i := range 4 {
				has := (row.has + "    ")[i]
				first, last := span(has, size.n, size.cells)
				for _, x := range []int{math.MinInt, -2, -1, 0, 1, 7, 8, 62, 63, 64, first, first - 1, first + 1, last, last - 1, last + 1, math.MaxInt} {
					l := within(row.op, row.has)
					l[i] = x
					want, place := api.OK, -1
					if x < first || x > last {
						want, place = api.ErrRange, size.place
					}
					right(t, at(size.n, size.place, ins(row.op, l)), size.cells, want, place)
				}
			}
		}
	}
}

func TestNoCellIsThereOnNoCells(t *testing.T) {
	for _, row := range table {
		p := at(2, 0, ins(row.op, within(row.op, row.has)))
		if strings.Contains(row.has, "M") {
			right(t, p, 0, api.ErrRange, 0)
		} else {
			right(t, p, 0, api.OK, -1)
		}
	}
}

func TestRightTellsWhichIsNoOp(t *testing.T) {
	for _, op := range noOps {
		for _, place := range []int{0, 1, 5} {
			right(t, at(6, place, api.Ins{Op: op}), 1, api.ErrArg, place)
			right(t, at(6, place, api.Ins{Op: op, A: -1, B: -1, C: -9, D: 99}), 1, api.ErrArg, place)
		}
	}
}

func TestRightTellsTheFirstInstruction(t *testing.T) {
	arg, far, let := api.Ins{Op: api.Ops}, api.Ins{Op: api.Copy, A: 8}, api.Ins{Op: api.Let}
	right(t, []api.Ins{let, far, arg, let}, 1, api.ErrRange, 1)
	right(t, []api.Ins{let, arg, far, let}, 1, api.ErrArg, 1)
	right(t, []api.Ins{far, far}, 1, api.ErrRange, 0)
	right(t, []api.Ins{arg, arg}, 1, api.ErrArg, 0)
	right(t, []api.Ins{let, let, far}, 1, api.ErrRange, 2)
	right(t, []api.Ins{let, let, arg}, 1, api.ErrArg, 2)
}

func TestTheLastInstructionIsHaltOrJump(t *testing.T) {
	for _, row := range table {
		x := ins(row.op, within(row.op, row.has))
		for _, n := range []int{1, 2, 7, api.MaxIns} {
			if row.op == api.Halt || row.op == api.Jump {
				right(t, at(n, n-1, x), 1, api.OK, -1)
			} else {
				right(t, at(n, n-1, x), 1, api.ErrMissing, n-1)
			}
		}
	}
}

func TestAProgramThatIsRight(t *testing.T) {
	p, err := code.Parse("load 1 299\nless 1 0 3\njump 5\nwait 299 1\njump 0\nsay -9 7\nwake 0 -1 7\njump 7\n")
	tells(t, "parse", err, api.OK, -1)
	right(t, p, api.MaxCells, api.OK, -1)
	right(t, p, api.MaxCells-1, api.ErrRange, 0)
	right(t, p[:7], api.MaxCells, api.ErrMissing, 6)
	right(t, p[:5], api.MaxCells, api.ErrRange, 2)
}

func TestPrintOfEachOp(t *testing.T) {
	for _, row := range table {
		l := [4]int{-4, 0, 1234567890123, 7}
		words := []string{row.name, "-4", "0", "1234567890123", "7"}
		s, err := code.Print([]api.Ins{ins(row.op, l)})
		tells(t, row.name, err, api.OK, -1)
		if want := strings.Join(words[:1+len(row.has)], " ") + "\n"; s != want {
			t.Errorf("got %q, want %q", s, want)
		}
	}
}

func TestPrintIsOfAnyNumbers(t *testing.T) {
	for _, c := range []struct {
		x    api.Ins
		want string
	}{
		{api.Ins{Op: api.Store, A: 1, B: 0, C: -1}, "store 1 0 -1\n"},
		{api.Ins{Op: api.Say, A: math.MinInt, B: math.MaxInt}, "say -9223372036854775808 9223372036854775807\n"},
		{api.Ins{Op: api.Field, A: 8, B: -1, C: 64, D: 0}, "field 8 -1 64 0\n"},
		{api.Ins{Op: api.Halt, A: 1, B: 2, C: 3, D: 4}, "halt\n"},
		{api.Ins{Op: api.Jump, A: 601, B: 2}, "jump 601\n"},
	} {
		s, err := code.Print([]api.Ins{c.x})
		tells(t, c.want, err, api.OK, -1)
		if s != c.want {
			t.Errorf("got %q, want %q", s, c.want)
		}
	}
}

func TestPrintIsOfAnyLength(t *testing.T) {
	for _, n := range []int{0, 1, 2, api.MaxIns, api.MaxIns + 1, 40 * api.MaxIns} {
		s, err := code.Print(halts(n))
		tells(t, "print", err, api.OK, -1)
		if s != strings.Repeat("halt\n", n) {
			t.Errorf("%d halts: got %d bytes", n, len(s))
		}
	}
}

func TestPrintTellsTheFirstThatIsNoOp(t *testing.T) {
	for _, op := range noOps {
		for _, place := range []int{0, 1, 700} {
			p := at(702, place, api.Ins{Op: op})
			p[701].Op = -5
			s, err := code.Print(p)
			tells(t, fmt.Sprint("op ", op), err, api.ErrArg, place)
			if s != "" {
				t.Errorf("%q beside an error", s)
			}
		}
	}
}

// parsed is the program that a text is.
func parsed(t *testing.T, s string) []api.Ins {
	t.Helper()
	p, err := code.Parse(s)
	tells(t, fmt.Sprintf("parse %.60q", s), err, api.OK, -1)
	return p
}

func TestParseIsBackFromPrint(t *testing.T) {
	s, err := code.Print(all())
	tells(t, "print", err, api.OK, -1)
	if p := parsed(t, s); !slices.Equal(p, all()) {
		t.Errorf("got %v, want %v", p, all())
	}
	if p := parsed(t, ""); len(p) != 0 {
		t.Errorf("no line: got %v", p)
	}
}

func TestParseTakesNumbersAsTheyStand(t *testing.T) {
	for _, n := range []int{math.MinInt, math.MinInt + 1, -1000000, -10, -9, -1, 0, 1, 9, 10, 100, 1 << 53, math.MaxInt - 1, math.MaxInt} {
		for _, row := range table {
			var l [4]int
			for i := range row.has {
				l[i] = n
			}
			s := row.name + strings.Repeat(fmt.Sprint(" ", n), len(row.has)) + "\n"
			if p := parsed(t, s); !slices.Equal(p, []api.Ins{ins(row.op, l)}) {
				t.Errorf("%q: got %v", s, p)
			}
		}
	}
}

// isNone checks that a line is no instruction, wherever it stands.
func isNone(t *testing.T, line string) {
	t.Helper()
	for _, ahead := range []int{0, 1, 5, api.MaxIns - 1, api.MaxIns} {
		for _, behind := range []string{"", "halt\n", "none\n"} {
			p, err := code.Parse(strings.Repeat("halt\n", ahead) + line + behind)
			tells(t, fmt.Sprintf("%.60q behind %d", line, ahead), err, api.ErrForm, ahead)
			if p != nil {
				t.Errorf("%q: %v beside an error", line, p)
			}
		}
	}
}

func TestALineIsAnInstruction(t *testing.T) {
	for _, line := range []string{
		"", " ", "hold", "Halt", "HALT", "halts", "hal", " halt", "halt ", "halt\r", "halt\x00", "\xffhalt", "halt 0", "halt;halt", "0", "16 1 2", "jump",
		"jump ", "jump  1", "jump 1 ", "jump 1 2", "jump\t1", "jump1", "jump 1\r", "let 0", "let 0 ", "let 0 1 2", "say  1 2", "say 1  2", "say 1 2 ", " say 1 2",
		"swap 0 1 2", "swap 0 1 2 3 4", "field 0 1 2", "field 0 1 2 3 ", "store 1 0", "wake 1 0", "copy 1\u00a02", "copy 1 2\v",
	} {
		isNone(t, line+"\n")
	}
}

func TestANumberIsDecimal(t *testing.T) {
	for _, word := range []string{
		"", "-", "+", "+0", "+1", "-0", "00", "01", "-01", "--1", "1-", "1+", "0x1", "0b1", "1e3", "1.0", "1.", "1_000", "x", "1x", "x1", "\u0661", "1,0",
		"9223372036854775808", "-9223372036854775809", "18446744073709551616", "18446744073709551615", strings.Repeat("9", 5000), "0" + strings.Repeat("0", 5000),
	} {
		isNone(t, "jump "+word+"\n")
		isNone(t, "same "+word+" 1 2\n")
		isNone(t, "same 1 "+word+" 2\n")
		isNone(t, "same 1 2 "+word+"\n")
	}
}

func TestEachLineHasALineFeed(t *testing.T) {
	for _, row := range table {
		line := row.name + strings.Repeat(" 1", len(row.has))
		parsed(t, line+"\n")
		for _, ahead := range []int{0, 1, api.MaxIns - 1, api.MaxIns} {
			_, err := code.Parse(strings.Repeat("halt\n", ahead) + line)
			tells(t, line, err, api.ErrForm, ahead)
		}
	}
}

func TestParseIsOfAtMostMaxIns(t *testing.T) {
	for _, n := range []int{1, 2, 599, api.MaxIns} {
		if p := parsed(t, strings.Repeat("jump 3\n", n)); len(p) != n {
			t.Errorf("%d lines: got %d", n, len(p))
		}
	}
	full := strings.Repeat("jump 3\n", api.MaxIns)
	for _, more := range []string{"halt\n", "halt\nhalt\n", "halt\nnone\n", "halt\nhalt", "halt\n\n"} {
		p, err := code.Parse(full + more)
		tells(t, fmt.Sprintf("%q", more), err, api.ErrLimit, -1)
		if p != nil {
			t.Errorf("%d instructions beside an error", len(p))
		}
	}
	for _, more := range []string{"none\n", "halt", "\n"} {
		_, err := code.Parse(full + more)
		tells(t, fmt.Sprintf("%q", more), err, api.ErrForm, api.MaxIns)
	}
}

// grammar is what a text of instructions looks like, whose numbers are short.
func grammar() *regexp.Regexp {
	var lines []string
	for _, row := range table {
		lines = append(lines, row.name+strings.Repeat(" (?:0|-?[1-9][0-9]*)", len(row.has)))
	}
	return regexp.MustCompile(`\A(?:(?:` + strings.Join(lines, "|") + `)\n)*\z`)
}

// TestAllTextsNearby changes each byte of a text to others, takes it away, and puts others there: what is parsed is what is printed so, and nothing else.
func TestAllTextsNearby(t *testing.T) {
	s, _ := code.Print(all())
	short, form := "halt\nstore 1 0 -1\nswap 10 2 -30 4\njump 0\n", grammar()
	for _, text := range []string{short, s} {
		for i := range len(text) + 1 {
			for _, c := range []string{"", " ", "\n", "0", "1", "-", "+", "a", "e", "\r", "\x00", "\xff"} {
				nearby(t, form, text[:i]+c+text[i:])
				if i < len(text) {
					nearby(t, form, text[:i]+c+text[i+1:])
				}
			}
		}
	}
}

// nearby checks one of the texts.
func nearby(t *testing.T, form *regexp.Regexp, s string) {
	t.Helper()
	p, err := code.Parse(s)
	if !form.MatchString(s) {
		if e, place := plain.Place(err); e != api.ErrForm || place < 0 || !form.MatchString(lines(s, place)) || form.MatchString(lines(s, place+1)) || p != nil {
			t.Errorf("%q: got %v, error %d at %d", s, p, e, place)
		}
		return
	}
	tells(t, s, err, api.OK, -1)
	if back, err := code.Print(p); back != s || err != nil {
		t.Errorf("%q: printed %q, %v", s, back, err)
	}
}

// lines are the first lines of a text.
func lines(s string, n int) string {
	return strings.Join(strings.SplitAfter(s, "\n")[:n], "")
}

func TestListsAreNeitherChangedNorReadBehindTheirLength(t *testing.T) {
	behind := append(all(), api.Ins{Op: api.Halt}, api.Ins{Op: -1})
	was := slices.Clone(behind)
	p := behind[:len(behind)-1]
	s, err := code.Print(p)
	tells(t, "print", err, api.OK, -1)
	if want, _ := code.Print(slices.Clone(p)); s != want {
		t.Errorf("got %q, want %q", s, want)
	}
	right(t, p, api.MaxCells, api.ErrRange, 1)
	right(t, halts(2)[:1], 0, api.OK, -1)
	if !slices.Equal(behind, was) {
		t.Errorf("changed to %v", behind)
	}
}

func TestWhatIsParsedIsTheCallers(t *testing.T) {
	a, b := parsed(t, "halt\njump 1\n"), parsed(t, "halt\njump 1\n")
	a[1].A = 9
	if b[1].A != 1 {
		t.Error("two answers share memory")
	}
	if c := parsed(t, "halt\njump 1\n"); c[1].A != 1 {
		t.Error("an answer hangs on an earlier one")
	}
}
