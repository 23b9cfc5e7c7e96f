// Package sha is layer 1: see shared/doc/01-sha.md.
package sha

import "portolan/api"

// State is bytes that were taken.
type State struct {
	made  bool // a State that New did not make is refused by this
	hash  [hashWords]uint32
	rest  [blockSize]byte // its first count modulo blockSize bytes wait for a whole block
	count uint64
}

// Sum: P1.1.
func Sum(b []byte) api.Digest { return All(b) }

// All: P1.1.
func All(parts ...[]byte) api.Digest {
	s := New()
	for _, part := range parts {
		s.take(part)
	}
	return s.Sum()
}

// New: P1.2.
func New() *State { return &State{made: true, hash: beginning} }

// Write: P1.2.
func (s *State) Write(b []byte) api.Errno {
	if !s.usable() {
		return api.ErrNil
	}
	s.take(b)
	return api.OK
}

// Sum: P1.2.
func (s *State) Sum() api.Digest {
	if !s.usable() {
		return api.Digest{}
	}
	// The end is laid behind a copy, so that s can go on taking bytes.
	last := *s
	last.take(ending(s.count))
	return last.digest()
}

// Len: P1.2.
func (s *State) Len() uint64 {
	if !s.usable() {
		return 0
	}
	return s.count
}

// Copy: P1.2.
func (s *State) Copy() *State {
	if !s.usable() {
		return nil
	}
	own := *s
	return &own
}

func (s *State) usable() bool { return s != nil && s.made }

// take works whole blocks of b in where they stand, without a copy of them.
func (s *State) take(b []byte) {
	waiting := int(s.count % blockSize)
	s.count += uint64(len(b))
	if waiting > 0 {
		n := copy(s.rest[waiting:], b)
		if waiting+n < blockSize {
			return
		}
		s.press(s.rest[:])
		b = b[n:]
	}
	copy(s.rest[:], eachBlock(b, s.press))
}
