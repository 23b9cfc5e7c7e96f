package json

import (
	"strconv"
	"unicode/utf8"

	"portolan/api"
)

const (
	firstHigh = 0xd800 // of the surrogates: with each high one a low one is a character of 20 bits, and 0x10000 more
	firstLow  = 0xdc00
	lastLow   = 0xdfff
	halfBits  = 10
	firstPair = 0x10000
)

// characters reads a text between its ".
func (r *reader) characters() string {
	r.take('"')
	var s []byte
	for r.next() != '"' {
		if r.next() == '\\' {
			s = utf8.AppendRune(s, r.escape())
		} else {
			s = append(s, r.plain()...)
		}
	}
	r.at++
	return string(s)
}

// plain reads a character that stands as it is.
func (r *reader) plain() []byte {
	r.refuse(r.next() < ' ', api.ErrForm)
	char, size := utf8.DecodeRune(r.b[r.at:])
	r.refuse(char == utf8.RuneError && size == 1, api.ErrForm)
	r.at += size
	return r.b[r.at-size : r.at]
}

// escape reads a character that is escaped, or is refused at its \.
func (r *reader) escape() rune {
	char, size := escaped(r.b[r.at:])
	r.refuse(size == 0, api.ErrForm)
	r.at += size
	return char
}

// escaped is the character whose escape, or two, b begins with, and how many bytes these have: 0, if there is none.
func escaped(b []byte) (rune, int) {
	if len(b) < 2 {
		return 0, 0
	}
	switch c := b[1]; c {
	case '"', '\\', '/':
		return rune(c), 2
	case 'b':
		return '\b', 2
	case 'f':
		return '\f', 2
	case 'n':
		return '\n', 2
	case 'r':
		return '\r', 2
	case 't':
		return '\t', 2
	}
	return numbered(b)
}

// numbered is as escaped, of \u alone.
func numbered(b []byte) (rune, int) {
	first, size := unit(b)
	if size == 0 || first < firstHigh || first > lastLow {
		return first, size
	}
	low, more := unit(b[size:])
	if first >= firstLow || low < firstLow || low > lastLow {
		return 0, 0
	}
	return firstPair + (first-firstHigh)<<halfBits + low - firstLow, size + more
}

// unit is the number of one \u and its four digits, and how many bytes these have: 0, if there are none.
func unit(b []byte) (rune, int) {
	const size = 6
	if len(b) < size || b[0] != '\\' || b[1] != 'u' {
		return 0, 0
	}
	n, err := strconv.ParseUint(string(b[2:size]), 16, 16)
	if err != nil {
		return 0, 0
	}
	return rune(n), size
}
