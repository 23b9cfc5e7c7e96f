package inflate

import (
	"portolan/api"
	"portolan/bits"
)

const (
	byteBits  = 8
	pieceSize = 1024
)

// source is what is left of the bytes. A bits.Reader keeps a copy of its own, so it is given one piece behind the other: what stands far behind a stream is never copied.
type source struct {
	piece *bits.Reader
	rest  []byte // behind the piece
}

func sourceOf(b []byte) *source { return &source{piece: bits.NewReader(nil), rest: b} }

// handed hands the bits on, one by one.
func (s *source) handed() func() (uint32, api.Errno) {
	return func() (uint32, api.Errno) {
		s.fill()
		bit, e := s.piece.Get(1)
		return uint32(bit), e
	}
}

// fill goes on to the next piece, if nothing is left of this one.
func (s *source) fill() {
	if s.piece.Left() == 0 {
		many := min(len(s.rest), pieceSize)
		s.piece, s.rest = bits.NewReader(s.rest[:many]), s.rest[many:]
	}
}

// align passes over the bits that are left in the byte.
func (s *source) align() { must(s.piece.Align()) }

// bytes takes one byte or more, but not more than most: as many as stand side by side in a piece.
func (s *source) bytes(most int) []byte {
	s.fill()
	b, e := s.piece.Bytes(max(1, min(most, s.piece.Left()/byteBits)))
	must(e)
	return b
}

// left is how many bytes have no bit that was taken.
func (s *source) left() int { return len(s.rest) + s.piece.Left()/byteBits }
