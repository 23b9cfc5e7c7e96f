package inflate

import (
	"slices"

	"portolan/api"
	"portolan/huff"
)

const (
	mostSigns     = 286
	mostDistances = 30
)

// The signs by which lengths are told: those below are lengths themselves.
const (
	again     = 16
	zeros     = 17
	manyZeros = 18
	tellers   = 19 // how many there are
)

// order is the one in which the lengths of these signs' own codes stand: the likely ones first, so that the others can be left out.
var order = [tellers]int{16, 17, 18, 0, 8, 7, 9, 6, 10, 5, 11, 4, 12, 3, 13, 2, 14, 1, 15}

// books are those of a block.
type books struct{ signs, distances *huff.Book }

// fixedBooks makes them but once: a stream may have very many blocks that are short.
func (s *stream) fixedBooks() *books {
	if s.plain == nil {
		signs := slices.Concat(slices.Repeat([]int{8}, 144), slices.Repeat([]int{9}, 112), slices.Repeat([]int{7}, 24), slices.Repeat([]int{8}, 8))
		s.plain = &books{signs: book(signs), distances: book(slices.Repeat([]int{5}, 32))}
	}
	return s.plain
}

// dynamicBooks reads those that stand at a block's beginning.
func (s *stream) dynamicBooks() *books {
	signs := 257 + s.number(5)
	distances := 1 + s.number(5)
	told := 4 + s.number(4)
	refuse(signs > mostSigns || distances > mostDistances, api.ErrCode)
	lens := s.lengths(s.lengthsBook(told), signs+distances)
	refuse(lens[end] == 0, api.ErrCode)
	return &books{signs: book(lens[:signs]), distances: book(lens[signs:])}
}

// lengthsBook is the one by which lengths are told; so many of its own stand here.
func (s *stream) lengthsBook(told int) *huff.Book {
	var lens [tellers]int
	for place := range told {
		lens[order[place]] = s.number(3)
	}
	return book(lens[:])
}

// lengths is the row of so many lengths that are told by a book.
func (s *stream) lengths(by *huff.Book, many int) []int {
	var lens []int
	for len(lens) < many {
		length, times := s.run(by, lens)
		for range times {
			lens = append(lens, length)
		}
	}
	refuse(len(lens) > many, api.ErrCode)
	return lens
}

// run is the next length, and how often it stands behind those ahead.
func (s *stream) run(by *huff.Book, ahead []int) (length, times int) {
	switch sign := s.symbol(by); sign {
	case again:
		// Its bits are read ahead of asking what it stands behind: so the chapter names them.
		times = 3 + s.number(2)
		refuse(len(ahead) == 0, api.ErrCode)
		return ahead[len(ahead)-1], times
	case zeros:
		return 0, 3 + s.number(3)
	case manyZeros:
		return 0, 11 + s.number(7)
	default:
		return sign, 1
	}
}

func book(lens []int) *huff.Book {
	b, e := huff.New(lens)
	must(e)
	return b
}
