package gzip

import (
	"strings"

	"portolan/api"
	"portolan/crc"
)

const (
	begin    = "\x1f\x8b\x08"
	flagsEnd = Noted << 1
	mostPart = 1<<16 - 1 // of Extra, Name and Note
	byteBits = 8
)

// May: P8.1.
func May(h Head) bool {
	return h.Flags < flagsEnd &&
		fits(h.has(Extra), len(h.Extra)) &&
		fits(h.has(Named), len(h.Name)) && closable(h.Name) &&
		fits(h.has(Noted), len(h.Note)) && closable(h.Note)
}

func (h Head) has(flag byte) bool { return h.Flags&flag != 0 }

// fits tells whether a part may have so many bytes: one that is not there has none.
func fits(there bool, size int) bool { return size == 0 || there && size <= mostPart }

// closable tells whether a byte 0 behind a text is the first one.
func closable(text string) bool { return strings.IndexByte(text, 0) < 0 }

// laid is how a head stands in a member.
func laid(h Head) []byte {
	b := append([]byte(begin), h.Flags)
	b = number(b, h.Time, 4)
	b = append(b, h.Level, h.System)
	if h.has(Extra) {
		b = number(b, uint32(len(h.Extra)), 2)
		b = append(b, h.Extra...)
	}
	if h.has(Named) {
		b = append(append(b, h.Name...), 0)
	}
	if h.has(Noted) {
		b = append(append(b, h.Note...), 0)
	}
	if h.has(Summed) {
		b = number(b, crc.Of(b), 2)
	}
	return b
}

// number lays the lowest bytes of n behind b, the lowest first.
func number(b []byte, n uint32, many int) []byte {
	for range many {
		b = append(b, byte(n))
		n >>= byteBits
	}
	return b
}

// headOf reads the head that b begins with, and tells how many bytes it has; with an error, so much as was read.
func headOf(b []byte) (h Head, size int, e api.Errno) {
	// The first error is told; what is read behind it is 0, so that texts end, too.
	refuse := func(wrong bool, why api.Errno) {
		if wrong && e == api.OK {
			e = why
		}
	}
	next := func() byte {
		refuse(size == len(b), api.ErrShort)
		if e != api.OK {
			return 0
		}
		size++
		return b[size-1]
	}
	for k := range len(begin) {
		refuse(next() != begin[k], api.ErrForm)
	}
	h.Flags = next()
	refuse(h.Flags >= flagsEnd, api.ErrForm)
	h.Time = readNumber(next, 4)
	h.Level = next()
	h.System = next()
	readParts(&h, next)
	if h.has(Summed) {
		sum := crc.Of(b[:size])
		refuse(readNumber(next, 2) != sum&0xffff, api.ErrSum)
	}
	return h, size, e
}

// readParts reads those parts that the flags tell.
func readParts(h *Head, next func() byte) {
	if h.has(Extra) {
		h.Extra = readBytes(next, int(readNumber(next, 2)))
	}
	if h.has(Named) {
		h.Name = readText(next)
	}
	if h.has(Noted) {
		h.Note = readText(next)
	}
}

// readNumber reads a number of so many bytes, the lowest first.
func readNumber(next func() byte, many int) uint32 {
	var n uint32
	for k := range many {
		n |= uint32(next()) << (byteBits * k)
	}
	return n
}

func readBytes(next func() byte, many int) []byte {
	b := make([]byte, many)
	for k := range b {
		b[k] = next()
	}
	return b
}

// readText reads up to a byte 0.
func readText(next func() byte) string {
	var b []byte
	for x := next(); x != 0; x = next() {
		b = append(b, x)
	}
	return string(b)
}
