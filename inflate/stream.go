package inflate

import (
	"portolan/api"
	"portolan/huff"
)

// The kinds of blocks.
const (
	stored  = 0
	fixed   = 1
	dynamic = 2
)

// The signs of a block that has codes, and what they tell.
const (
	end       = 256 // bytes are below it, copies above
	lastLong  = 285
	lastFar   = 29
	leastLong = 3
	mostLong  = 258
	leastFar  = 1
	longGroup = 4 // so many signs have one number of bits more
	farGroup  = 2
)

// stream is what is read, and what went out of it.
type stream struct {
	in    *source
	bit   func() (uint32, api.Errno)
	most  int
	out   []byte
	plain *books // of fixed blocks; nil, as long as there was none
}

func begun(b []byte, most int) *stream {
	in := sourceOf(b)
	return &stream{in: in, bit: in.handed(), most: most}
}

// block expands the next block.
func (s *stream) block() Block {
	last := s.number(1) == 1
	kind := s.number(2)
	from := len(s.out)
	switch kind {
	case stored:
		s.copyStored()
	case fixed:
		s.expand(s.fixedBooks())
	case dynamic:
		s.expand(s.dynamicBooks())
	default:
		panic(api.ErrCode)
	}
	return Block{Kind: kind, Last: last, From: from, To: len(s.out)}
}

func (s *stream) copyStored() {
	s.in.align()
	many := s.number(16)
	refuse(s.number(16) != many^0xffff, api.ErrCode)
	for many > 0 {
		b := s.in.bytes(many)
		s.put(b...)
		many -= len(b)
	}
}

// expand expands what fixed and dynamic blocks have.
func (s *stream) expand(by *books) {
	for {
		switch sign := s.symbol(by.signs); {
		case sign < end:
			s.put(byte(sign))
		case sign == end:
			return
		default:
			s.copyBack(s.long(sign), by.distances)
		}
	}
}

// long is how many bytes a copy of this sign has.
func (s *stream) long(sign int) int {
	refuse(sign > lastLong, api.ErrCode)
	if sign == lastLong {
		return mostLong
	}
	return leastLong + s.scaled(sign-end-1, longGroup)
}

// far is the distance that stands behind a copy's length.
func (s *stream) far(distances *huff.Book) int {
	sign := s.symbol(distances)
	refuse(sign > lastFar, api.ErrCode)
	return leastFar + s.scaled(sign, farGroup)
}

func (s *stream) copyBack(long int, distances *huff.Book) {
	far := s.far(distances)
	refuse(far > len(s.out), api.ErrCode)
	refuse(long > s.most-len(s.out), api.ErrCap)
	// One by one, as it may copy what it makes.
	for range long {
		s.out = append(s.out, s.out[len(s.out)-far])
	}
}

// put lets bytes go out that are there.
func (s *stream) put(b ...byte) {
	refuse(len(b) > s.most-len(s.out), api.ErrCap)
	s.out = append(s.out, b...)
}

// scaled is the number that a sign tells with its bits, both counted from 0. The first group of signs tells one number each; a sign of each group behind has one bit more than those of the group ahead, and begins where the sign ahead ends.
func (s *stream) scaled(sign, group int) int {
	if sign < group {
		return sign
	}
	more := sign/group - 1
	return (group+sign%group)<<more + s.number(more)
}

// symbol is the next one by a book.
func (s *stream) symbol(by *huff.Book) int {
	n, e := by.Next(s.bit)
	must(e)
	return n
}

// number is the next one of so many bits.
func (s *stream) number(many int) int {
	n := 0
	for k := range many {
		bit, e := s.bit()
		must(e)
		n |= int(bit) << k
	}
	return n
}
