package huff_test

import (
	"math/rand"
	"slices"
	"testing"

	"portolan/api"
	"portolan/huff"
)

// source hands on bits one by one, and then an error; it counts the calls.
type source struct {
	row   []uint32
	end   api.Errno
	calls int
}

func (s *source) bit() (uint32, api.Errno) {
	s.calls++
	if s.calls > len(s.row) {
		return 0, s.end
	}
	return s.row[s.calls-1], api.OK
}

// rowOf is a code's bits, the first one ahead.
func rowOf(code uint32, length int) []uint32 {
	var row []uint32
	for k := length - 1; k >= 0; k-- {
		row = append(row, code>>k&1)
	}
	return row
}

// reads tells what Next answers of a row of bits with an error behind it, and how many bits it asked for.
func reads(b *huff.Book, row []uint32) (symbol int, e api.Errno, calls int) {
	s := &source{row: row, end: api.ErrShort}
	symbol, e = b.Next(s.bit)
	return symbol, e, s.calls
}

func book(t *testing.T, lens []int) *huff.Book {
	t.Helper()
	b, e := huff.New(lens)
	if b == nil || e != api.OK {
		t.Fatalf("no book of %v: %d", lens, e)
	}
	return b
}

// P4.3: which lengths have a book, by name.
func TestNew(t *testing.T) {
	cases := []struct {
		name string
		lens []int
		want api.Errno
	}{
		{"none", nil, api.OK},
		{"empty", []int{}, api.OK},
		{"one of 0", []int{0}, api.OK},
		{"1024 of 0", same(1024, 0), api.OK},
		{"one of 1", []int{1}, api.OK},
		{"one of 1 among others of 0", []int{0, 0, 1, 0}, api.OK},
		{"one of 2", []int{2}, api.ErrCode},
		{"one of 2 among others of 0", []int{0, 2, 0}, api.ErrCode},
		{"one of 15", []int{15}, api.ErrCode},
		{"two of 1", []int{1, 1}, api.OK},
		{"two of 2", []int{2, 2}, api.ErrCode},
		{"one of 1, one of 2", []int{1, 2}, api.ErrCode},
		{"three of 1", []int{1, 1, 1}, api.ErrCode},
		{"full, and one of 15", []int{1, 1, 15}, api.ErrCode},
		{"example", []int{2, 1, 3, 3}, api.OK},
		{"example, but one", []int{2, 1, 3}, api.ErrCode},
		{"fixed", fixedLengths(), api.OK},
		{"30 of 5", same(30, 5), api.ErrCode},
		{"32 of 5", same(32, 5), api.OK},
		{"staircase", staircase(15), api.OK},
		{"staircase, but the last", staircase(15)[:15], api.ErrCode},
		{"staircase, and one more", append(staircase(15), 15), api.ErrCode},
		{"1024 of 10", same(1024, 10), api.OK},
		{"1024 of 15", same(1024, 15), api.ErrCode},
		{"1024 of 1", same(1024, 1), api.ErrCode},
	}
	for _, c := range cases {
		b, e := huff.New(c.lens)
		if e != c.want || (b != nil) != (e == api.OK) {
			t.Errorf("%s: %d, want %d", c.name, e, c.want)
		}
	}
	for name, lens := range wrongLengths() {
		if b, e := huff.New(lens); b != nil || e != api.ErrArg {
			t.Errorf("%s: %d", name, e)
		}
	}
}

// P4.3: which lengths have a book, of all short rows.
func TestNewOfAllShortRows(t *testing.T) {
	eachRow(6, 4, func(lens []int) {
		coded, sum := above0(lens), 0
		for _, length := range lens {
			sum += length
		}
		want := api.ErrCode
		if stateOf(lens) == huff.Full || coded == 0 || coded == 1 && sum == 1 {
			want = api.OK
		}
		if b, e := huff.New(lens); e != want || (b != nil) != (e == api.OK) {
			t.Fatalf("%v: %d, want %d", lens, e, want)
		}
	})
}

// P4.3: each code of a full book is read as its symbol, by as many bits as it has and none behind.
func TestNextOfEachCode(t *testing.T) {
	random := rand.New(rand.NewSource(44))
	rows := [][]int{{1, 1}, {2, 1, 3, 3}, fixedLengths(), staircase(15), same(1024, 10), {0, 0, 1, 0, 1}}
	for range 50 {
		rows = append(rows, anyFull(random, random.Intn(400)))
	}
	for _, lens := range rows {
		b := book(t, lens)
		for symbol, code := range codesOf(lens) {
			if lens[symbol] == 0 {
				continue
			}
			row := append(rowOf(code, lens[symbol]), 1, 0, 1)
			if got, e, calls := reads(b, row); got != symbol || e != api.OK || calls != lens[symbol] {
				t.Fatalf("%v: symbol %d: %d, %d behind %d bits", lens, symbol, got, e, calls)
			}
		}
	}
}

// P4.3: symbols that stand one behind the other are read one by one.
func TestNextGoesOn(t *testing.T) {
	random := rand.New(rand.NewSource(45))
	for range 50 {
		lens := anyFull(random, random.Intn(300))
		codes, b := codesOf(lens), book(t, lens)
		s := &source{end: api.ErrShort}
		var want []int
		for len(want) < 200 {
			symbol := random.Intn(len(lens))
			if lens[symbol] > 0 {
				want = append(want, symbol)
				s.row = append(s.row, rowOf(codes[symbol], lens[symbol])...)
			}
		}
		for k, symbol := range want {
			if got, e := b.Next(s.bit); got != symbol || e != api.OK {
				t.Fatalf("symbol %d of %v: %d, %d, want %d", k, lens, got, e, symbol)
			}
		}
		if s.calls != len(s.row) {
			t.Fatalf("%d bits taken of %d", s.calls, len(s.row))
		}
		if got, e := b.Next(s.bit); got != 0 || e != api.ErrShort {
			t.Fatalf("behind the last one: %d, %d", got, e)
		}
	}
}

// P4.3: an error of bit ends it, at whichever bit, whatever stands beside the error.
func TestNextOfErrors(t *testing.T) {
	for _, lens := range [][]int{staircase(15), {2, 1, 3, 3}, same(32, 5), {1}, nil} {
		b := book(t, lens)
		deepest := 1
		if len(lens) > 0 {
			deepest = slices.Max(lens)
		}
		for bits := range deepest {
			for _, e := range []api.Errno{api.ErrShort, api.ErrArg, api.ErrCode, api.ErrCap, api.ErrCorrupt, -1, 1000} {
				for _, beside := range []uint32{0, 1, 77} {
					calls := 0
					got, had := b.Next(func() (uint32, api.Errno) {
						calls++
						if calls > bits {
							return beside, e
						}
						return 1, api.OK
					})
					// Bits of 1 alone are a whole code only at the end of the longest ones.
					if got != 0 || had != e || calls != bits+1 {
						t.Fatalf("%v, %d behind %d bits: %d, %d behind %d", lens, e, bits, got, had, calls)
					}
				}
			}
		}
	}
}

// P4.3: a book of one symbol, and one of none: they give up behind one bit.
func TestNextOfOneSymbolOrNone(t *testing.T) {
	for _, lens := range [][]int{nil, {}, {0}, same(1024, 0)} {
		b := book(t, lens)
		for _, bit := range []uint32{0, 1} {
			if got, e, calls := reads(b, []uint32{bit, 0, 1}); got != 0 || e != api.ErrCode || calls != 1 {
				t.Errorf("none, bit %d: %d, %d behind %d bits", bit, got, e, calls)
			}
		}
		if got, e, calls := reads(b, nil); got != 0 || e != api.ErrShort || calls != 1 {
			t.Errorf("none, no bit: %d, %d behind %d bits", got, e, calls)
		}
	}
	for symbol := range 5 {
		lens := make([]int, 5)
		lens[symbol] = 1
		b := book(t, lens)
		if got, e, calls := reads(b, []uint32{0, 0, 1}); got != symbol || e != api.OK || calls != 1 {
			t.Errorf("one, bit 0: %d, %d behind %d bits", got, e, calls)
		}
		if got, e, calls := reads(b, []uint32{1, 0, 1}); got != 0 || e != api.ErrCode || calls != 1 {
			t.Errorf("one, bit 1: %d, %d behind %d bits", got, e, calls)
		}
		if got, e, calls := reads(b, nil); got != 0 || e != api.ErrShort || calls != 1 {
			t.Errorf("one, no bit: %d, %d behind %d bits", got, e, calls)
		}
	}
}

// P4.3: no book takes no bits, whatever they are; so does one that New did not make.
func TestNextOfNoBook(t *testing.T) {
	var zero huff.Book
	for name, b := range map[string]*huff.Book{"nil": nil, "zero": &zero, "new": new(huff.Book)} {
		for _, row := range [][]uint32{nil, {0}, {1, 1}} {
			if got, e, calls := reads(b, row); got != 0 || e != api.ErrCode || calls != 0 {
				t.Errorf("%s: %d, %d behind %d bits", name, got, e, calls)
			}
		}
		if got, e := b.Next(nil); got != 0 || e != api.ErrCode {
			t.Errorf("%s: %d, %d of no bits", name, got, e)
		}
	}
}

// P4.3 (R1): a bit that is none, or that panics, does not come out of Next; the book reads on.
func TestNextOfBadBits(t *testing.T) {
	b := book(t, []int{2, 1, 3, 3})
	if got, e := b.Next(nil); got != 0 || e != api.ErrArg {
		t.Errorf("no bit: %d, %d", got, e)
	}
	for _, bits := range []int{0, 1, 2} {
		calls := 0
		got, e := b.Next(func() (uint32, api.Errno) {
			calls++
			if calls > bits {
				panic("no more")
			}
			return 1, api.OK
		})
		if got != 0 || e != api.ErrArg || calls != bits+1 {
			t.Errorf("a panic behind %d bits: %d, %d", bits, got, e)
		}
	}
	if got, e, _ := reads(b, []uint32{1, 1, 0}); got != 2 || e != api.OK {
		t.Errorf("behind that: %d, %d", got, e)
	}
}

// P4.3: of what bit tells the lowest bit counts.
func TestNextTakesTheLowestBit(t *testing.T) {
	b := book(t, []int{2, 1, 3, 3})
	if got, e, calls := reads(b, []uint32{3, 1 << 31, 7}); got != 0 || e != api.OK || calls != 2 {
		t.Errorf("%d, %d behind %d bits", got, e, calls)
	}
}

// P4.3 (R3): the lengths are not kept; books know nothing of each other, and a book nothing of who reads.
func TestBooksKeepNothing(t *testing.T) {
	lens := []int{2, 1, 3, 3}
	b := book(t, lens)
	if !slices.Equal(lens, []int{2, 1, 3, 3}) {
		t.Fatal("the lengths were changed")
	}
	copy(lens, []int{3, 3, 1, 2})
	other := book(t, lens)
	for range 2 {
		if got, e, _ := reads(b, []uint32{1, 0, 0}); got != 0 || e != api.OK {
			t.Errorf("%d, %d", got, e)
		}
		if got, e, _ := reads(other, []uint32{1, 0, 0}); got != 3 || e != api.OK {
			t.Errorf("the other: %d, %d", got, e)
		}
	}
	// One reads in the midst of another's code.
	outer := &source{row: []uint32{1, 1, 1}}
	got, e := b.Next(func() (uint32, api.Errno) {
		if inner, e, _ := reads(b, []uint32{1, 1, 0}); inner != 2 || e != api.OK {
			t.Errorf("inner: %d, %d", inner, e)
		}
		return outer.bit()
	})
	if got != 3 || e != api.OK {
		t.Errorf("outer: %d, %d", got, e)
	}
}
