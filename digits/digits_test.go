package digits_test

import (
	"math"
	"strconv"
	"strings"
	"testing"

	"quadrille/digits"
)

func TestNumbersAreWhatIsPrinted(t *testing.T) {
	for _, n := range []int{math.MinInt, math.MinInt + 1, -1000, -10, -9, -1, 0, 1, 9, 10, 99, 100, 1 << 53, math.MaxInt - 1, math.MaxInt} {
		if got, ok := digits.Number(strconv.Itoa(n)); got != n || !ok {
			t.Errorf("%d: got %d, %v", n, got, ok)
		}
	}
}

func TestNoOtherWordIsANumber(t *testing.T) {
	for _, word := range []string{
		"", " ", " 1", "1 ", "1\n", "\x001", "-", "+", "+0", "+1", "-0", "00", "01", "-01", "--1", "1-", "0x1", "0b1", "0o7", "1e3", "1.0", "1.", "1_000", "x", "1x", "\u0661",
		"9223372036854775808", "-9223372036854775809", "18446744073709551616", strings.Repeat("9", 5000), strings.Repeat("0", 5000),
	} {
		if got, ok := digits.Number(word); got != 0 || ok {
			t.Errorf("%.40q: got %d, %v", word, got, ok)
		}
	}
}
