package inflate_test

import (
	"bytes"
	"math/rand"
	"strconv"
	"sync"
	"testing"

	"portolan/api"
	"portolan/inflate"
	"portolan/match"
)

// row is a row of bits, one bit an element: streams are laid on it in the plainest way.
type row []byte

func (r *row) number(n, many int) {
	for k := range many {
		*r = append(*r, byte(n>>k&1))
	}
}

func (r *row) code(c string) {
	for _, bit := range c {
		*r = append(*r, byte(bit-'0'))
	}
}

// align fills up the byte with bits that tell nothing.
func (r *row) align(filler int) {
	for len(*r)%8 != 0 {
		*r = append(*r, byte(filler))
	}
}

func (r *row) bytes(b ...byte) {
	for _, x := range b {
		r.number(int(x), 8)
	}
}

func (r row) inBytes() []byte {
	b := make([]byte, (len(r)+7)/8)
	for k, bit := range r {
		b[k/8] |= bit << (k % 8)
	}
	return b
}

func (r *row) head(last bool, kind int) {
	if last {
		r.number(1, 1)
	} else {
		r.number(0, 1)
	}
	r.number(kind, 2)
}

func (r *row) stored(last bool, b []byte) {
	r.head(last, 0)
	r.align(1)
	r.number(len(b), 16)
	r.number(len(b)^0xffff, 16)
	r.bytes(b...)
}

// longs and fars are the signs of copies: the least number of each, and its bits more.
var longs = [][2]int{
	{3, 0}, {4, 0}, {5, 0}, {6, 0}, {7, 0}, {8, 0}, {9, 0}, {10, 0}, {11, 1}, {13, 1}, {15, 1}, {17, 1}, {19, 2}, {23, 2}, {27, 2}, {31, 2},
	{35, 3}, {43, 3}, {51, 3}, {59, 3}, {67, 4}, {83, 4}, {99, 4}, {115, 4}, {131, 5}, {163, 5}, {195, 5}, {227, 5}, {258, 0},
}
var fars = [][2]int{
	{1, 0}, {2, 0}, {3, 0}, {4, 0}, {5, 1}, {7, 1}, {9, 2}, {13, 2}, {17, 3}, {25, 3}, {33, 4}, {49, 4}, {65, 5}, {97, 5}, {129, 6}, {193, 6},
	{257, 7}, {385, 7}, {513, 8}, {769, 8}, {1025, 9}, {1537, 9}, {2049, 10}, {3073, 10}, {4097, 11}, {6145, 11}, {8193, 12}, {12289, 12}, {16385, 13}, {24577, 13},
}

// signOf is the last sign of a list whose least number n is not below.
func signOf(list [][2]int, n int) int {
	sign := 0
	for k, from := range list {
		if n >= from[0] {
			sign = k
		}
	}
	return sign
}

// coder has the codes of a block.
type coder struct{ signs, distances []string }

func coderOf(signs, distances []int) coder {
	return coder{codesOf(signs), codesOf(distances)}
}

// codesOf is each symbol's code in letters, empty where it has none.
func codesOf(lens []int) []string {
	codes := make([]string, len(lens))
	next := 0
	for length := 1; length <= 15; length++ {
		next *= 2
		for symbol, l := range lens {
			if l == length {
				codes[symbol] = strconv.FormatInt(int64(1<<length+next), 2)[1:]
				next++
			}
		}
	}
	return codes
}

func (r *row) long(c coder, n int) {
	sign := signOf(longs, n)
	r.code(c.signs[257+sign])
	r.number(n-longs[sign][0], longs[sign][1])
}

func (r *row) far(c coder, n int) {
	sign := signOf(fars, n)
	r.code(c.distances[sign])
	r.number(n-fars[sign][0], fars[sign][1])
}

// steps lays literals and copies.
func (r *row) steps(c coder, l ...match.Step) {
	for _, s := range l {
		if s.Long == 0 {
			r.code(c.signs[s.Byte])
			continue
		}
		r.long(c, s.Long)
		r.far(c, s.Far)
	}
}

func (r *row) end(c coder) { r.code(c.signs[256]) }

var fixedCoder = sync.OnceValue(func() coder { return coderOf(fixedLengths()) })

func fixedLengths() (signs, distances []int) {
	signs = append(same(144, 8), same(112, 9)...)
	signs = append(signs, same(24, 7)...)
	return append(signs, same(8, 8)...), same(32, 5)
}

func same(many, n int) []int {
	l := make([]int, many)
	for k := range l {
		l[k] = n
	}
	return l
}

func (r *row) fixed(last bool, l ...match.Step) {
	r.head(last, 1)
	r.steps(fixedCoder(), l...)
	r.end(fixedCoder())
}

// tellerOrder is the order in which the lengths of the signs that tell lengths stand.
var tellerOrder = []int{16, 17, 18, 0, 8, 7, 9, 6, 10, 5, 11, 4, 12, 3, 13, 2, 14, 1, 15}

// evenTellers are full, and have a code for each sign.
func evenTellers() []int { return append(same(13, 4), same(6, 5)...) }

// told is a sign that tells lengths, and the number behind it.
type told struct{ sign, more int }

func (r *row) told(tellers []int, l ...told) {
	codes := codesOf(tellers)
	for _, x := range l {
		r.code(codes[x.sign])
		switch x.sign {
		case 16:
			r.number(x.more, 2)
		case 17:
			r.number(x.more, 3)
		case 18:
			r.number(x.more, 7)
		}
	}
}

// counts lays how many lengths there are, and the lengths of the first many signs that tell them.
func (r *row) counts(signs, distances, many int, tellers []int) {
	r.number(signs-257, 5)
	r.number(distances-1, 5)
	r.number(many-4, 4)
	for _, sign := range tellerOrder[:many] {
		r.number(tellers[sign], 3)
	}
}

// lengths lays the head of a dynamic block with lengths that are told one by one.
func (r *row) lengths(signs, distances []int) {
	r.counts(len(signs), len(distances), 19, evenTellers())
	for _, l := range [][]int{signs, distances} {
		for _, length := range l {
			r.told(evenTellers(), told{length, 0})
		}
	}
}

func (r *row) dynamic(last bool, signs, distances []int, l ...match.Step) {
	r.head(last, 2)
	r.lengths(signs, distances)
	r.steps(coderOf(signs, distances), l...)
	r.end(coderOf(signs, distances))
}

func literals(s string) []match.Step {
	var l []match.Step
	for k := range len(s) {
		l = append(l, match.Step{Byte: s[k]})
	}
	return l
}

func copied(long, far int) match.Step { return match.Step{Long: long, Far: far} }

// someBytes tells n bytes, of which none can be told from those ahead; the same at every run.
func someBytes(n int) []byte {
	b := make([]byte, n)
	rand.New(rand.NewSource(int64(n) + 6)).Read(b)
	return b
}

const plenty = 1 << 24

// goes holds All against what goes out, and all of b against what it uses.
func goes(t *testing.T, name string, b []byte, want []byte) {
	t.Helper()
	out, used, e := inflate.All(b, plenty)
	if e != api.OK || used != len(b) || !bytes.Equal(out, want) {
		t.Errorf("%s: %d bytes, not %d, %d used of %d, error %d", name, len(out), len(want), used, len(b), e)
	}
}

// fails asks for an error, beside which there is nothing, of All and of Blocks.
func fails(t *testing.T, name string, b []byte, most int, want api.Errno) {
	t.Helper()
	out, used, e := inflate.All(b, most)
	if e != want || len(out) != 0 || used != 0 {
		t.Errorf("%s: All: %d bytes, %d used, error %d, not %d", name, len(out), used, e, want)
	}
	if l, e := inflate.Blocks(b, most); e != want || len(l) != 0 {
		t.Errorf("%s: Blocks: %d, error %d, not %d", name, len(l), e, want)
	}
}
