// Package digits: numbers in texts.
package digits

import "strconv"

// Number is the number that a word is, if it is one: no +, no -0, and no 0 ahead are in it, as none are printed.
func Number(word string) (int, bool) {
	n, err := strconv.Atoi(word)
	if err != nil || strconv.Itoa(n) != word {
		return 0, false
	}
	return n, true
}
