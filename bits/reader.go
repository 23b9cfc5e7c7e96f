package bits

import (
	"bytes"

	"portolan/api"
)

// Reader reads bits.
type Reader struct {
	made bool // a Reader that NewReader did not make is refused by this
	row  []byte
	at   int // how many bits were taken
}

// NewReader: P3.2.
func NewReader(b []byte) *Reader { return &Reader{made: true, row: bytes.Clone(b)} }

// Get: P3.2.
func (r *Reader) Get(many int) (uint64, api.Errno) {
	if e := r.refusal(many); e != api.OK {
		return 0, e
	}
	n := number(many, r.bit)
	r.at += many
	return n, api.OK
}

// Peek: P3.2.
func (r *Reader) Peek(many int) (uint64, int) {
	if !r.usable() {
		return 0, 0
	}
	there := min(brought(many, mostAtOnce), r.Left())
	return number(there, r.bit), there
}

// Skip: P3.2.
func (r *Reader) Skip(many int) api.Errno {
	if e := r.refusal(many); e != api.OK {
		return e
	}
	r.at += many
	return api.OK
}

// Align: P3.3.
func (r *Reader) Align() api.Errno {
	if !r.usable() {
		return api.ErrNil
	}
	r.at = (r.at + byteBits - 1) / byteBits * byteBits
	return api.OK
}

// Bytes: P3.3.
func (r *Reader) Bytes(many int) ([]byte, api.Errno) {
	if !r.usable() {
		return nil, api.ErrNil
	}
	if many < 0 || r.at%byteBits != 0 {
		return nil, api.ErrArg
	}
	// Held against whole bytes, as the bits of a great many would be more than an int holds.
	if many > r.Left()/byteBits {
		return nil, api.ErrShort
	}
	from := r.at / byteBits
	r.at += many * byteBits
	return bytes.Clone(r.row[from : from+many]), api.OK
}

// Left: P3.3.
func (r *Reader) Left() int {
	if !r.usable() {
		return 0
	}
	return len(r.row)*byteBits - r.at
}

// At: P3.3.
func (r *Reader) At() int {
	if !r.usable() {
		return 0
	}
	return r.at
}

func (r *Reader) usable() bool { return r != nil && r.made }

// refusal is why many bits can't be taken.
func (r *Reader) refusal(many int) api.Errno {
	if !r.usable() {
		return api.ErrNil
	}
	if many < 0 || many > mostAtOnce {
		return api.ErrArg
	}
	if many > r.Left() {
		return api.ErrShort
	}
	return api.OK
}

// bit is the one k places behind what was taken.
func (r *Reader) bit(k int) uint64 {
	at := r.at + k
	return uint64(r.row[at/byteBits] >> (at % byteBits) & 1)
}
