package huff

import "portolan/api"

// Book reads codes.
type Book struct {
	deepest int // the most bits that are taken for a symbol; 0, if New did not make it
	first   [Longest + 1]uint32
	symbols [Longest + 1][]int // of each length, in the order of their codes
}

// New: P4.3.
func New(lens []int) (*Book, api.Errno) {
	t, e := tallied(lens)
	if e != api.OK {
		return nil, e
	}
	if t.state() != Full && !oneOrNone(t, len(lens)) {
		return nil, api.ErrCode
	}
	b := &Book{deepest: 1, first: t.firsts()}
	for symbol, length := range lens {
		if length > 0 {
			b.deepest = max(b.deepest, length)
			b.symbols[length] = append(b.symbols[length], symbol)
		}
	}
	return b, api.OK
}

// Next: P4.3.
func (b *Book) Next(bit func() (uint32, api.Errno)) (symbol int, e api.Errno) {
	if b == nil {
		return 0, api.ErrCode
	}
	// bit may be none, or panic itself: neither may come out of here.
	defer func() {
		if recover() != nil {
			symbol, e = 0, api.ErrArg
		}
	}()
	var code uint32
	return b.find(func() (uint32, api.Errno) {
		n, e := bit()
		code = code<<1 | n&1
		return code, e
	})
}

// oneOrNone tells if no symbol has a length, or just one, of length 1.
func oneOrNone(t tally, symbols int) bool {
	coded := symbols - t[0]
	return coded <= 1 && coded == t[1]
}

// find is the symbol whose code longer comes to first; each call of longer tells the row of bits with one more behind it.
func (b *Book) find(longer func() (uint32, api.Errno)) (int, api.Errno) {
	for length := 1; length <= b.deepest; length++ {
		code, e := longer()
		if e != api.OK {
			return 0, e
		}
		// Never below the first code: what is below begins with a shorter one, and was found.
		place := int(code - b.first[length])
		if place < len(b.symbols[length]) {
			return b.symbols[length][place], api.OK
		}
	}
	return 0, api.ErrCode
}
