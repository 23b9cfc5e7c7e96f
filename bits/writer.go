package bits

import (
	"bytes"

	"portolan/api"
)

// Writer lays bits.
type Writer struct {
	made  bool // a Writer that NewWriter did not make is refused by this
	row   []byte
	count int // of bits; those of the row's last byte behind them are 0
}

// NewWriter: P3.1.
func NewWriter() *Writer { return &Writer{made: true} }

// Put: P3.1.
func (w *Writer) Put(n uint64, many int) api.Errno {
	if e := w.refusal(n, many); e != api.OK {
		return e
	}
	spread(n, many, w.lay)
	return api.OK
}

// Code: P3.1.
func (w *Writer) Code(n uint64, many int) api.Errno {
	// Asked ahead of turning n round, which cuts what is too great.
	if e := w.refusal(n, many); e != api.OK {
		return e
	}
	return w.Put(Reverse(n, many), many)
}

// Align: P3.1.
func (w *Writer) Align() api.Errno {
	if !w.usable() {
		return api.ErrNil
	}
	w.count = len(w.row) * byteBits
	return api.OK
}

// Bytes: P3.1.
func (w *Writer) Bytes(b []byte) api.Errno {
	if !w.usable() {
		return api.ErrNil
	}
	if w.count%byteBits != 0 {
		return api.ErrArg
	}
	w.row = append(w.row, b...)
	w.count += len(b) * byteBits
	return api.OK
}

// Len: P3.1.
func (w *Writer) Len() int {
	if !w.usable() {
		return 0
	}
	return w.count
}

// Done: P3.1.
func (w *Writer) Done() []byte {
	if !w.usable() {
		return nil
	}
	return bytes.Clone(w.row)
}

func (w *Writer) usable() bool { return w != nil && w.made }

// refusal is why n can't be put as many bits.
func (w *Writer) refusal(n uint64, many int) api.Errno {
	if !w.usable() {
		return api.ErrNil
	}
	if many < 0 || many > mostAtOnce || n>>many != 0 {
		return api.ErrArg
	}
	return api.OK
}

// lay puts one bit behind the row.
func (w *Writer) lay(bit byte) {
	place := w.count % byteBits
	if place == 0 {
		w.row = append(w.row, 0)
	}
	w.row[len(w.row)-1] |= bit << place
	w.count++
}
