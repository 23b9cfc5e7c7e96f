package pax

import (
	"strings"

	"portolan/api"
)

// leastOthers is how many bytes a text has beside its digits at the least: those of a key of one byte, and no value.
const leastOthers = signs + 1

// withDigits is the size of a text that has so many bytes beside its digits.
func withDigits(others int) int {
	// Gone up to from below: of two sizes that would be so the lesser one is met first.
	size := others
	for size != others+digits(size) {
		size = others + digits(size)
	}
	return size
}

func digits(n int) int { return len(Text(int64(n))) }

// isSize tells whether some record's text has just so many bytes.
func isSize(n int) bool {
	others := n - digits(n)
	return others >= leastOthers && n <= api.MaxBlob && withDigits(others) == n
}

// beginsSize tells whether a size's digits are those of n, and maybe more behind them.
func beginsSize(n int) bool {
	// Of the numbers with more digits the one with a 1 behind is asked for all: with a 0 it may be 10, 100 and so on, and all others are greater.
	return isSize(n) || isSize(10*n+1)
}

// readSize reads the size of the text that s begins with, and tells what stands behind the blank.
func readSize(s string) (size int, behind string, e api.Errno) {
	told, behind, ended := strings.Cut(s, " ")
	n, isNumber := Number(told)
	if !isNumber || n < 0 || n > api.MaxBlob {
		return 0, "", api.ErrForm
	}
	size = int(n)
	switch {
	case ended && isSize(size):
		return size, behind, api.OK
	case !ended && beginsSize(size):
		return 0, "", api.ErrShort
	}
	return 0, "", api.ErrForm
}

// readRecord reads what stands behind a text's blank: many bytes, of which s may have only the first ones.
func readRecord(s string, many int) (Record, api.Errno) {
	end := many - 1 // where the newline stands
	key, value, parted := strings.Cut(s[:min(end, len(s))], "=")
	// Of a key that is cut short none of the bytes may be there yet, but there must be room for the = behind it.
	begun := !parted && len(key) < end && (key == "" || isKey(key))
	if !begun && !(parted && isKey(key)) {
		return Record{}, api.ErrForm
	}
	if len(s) < many {
		return Record{}, api.ErrShort
	}
	if s[end] != '\n' {
		return Record{}, api.ErrForm
	}
	return Record{key, value}, api.OK
}
