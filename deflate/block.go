package deflate

import (
	"math"
	"slices"

	"portolan/bits"
	"portolan/huff"
	"portolan/match"
)

// The kinds of blocks.
const (
	stored  = 0
	fixed   = 1
	dynamic = 2
)

const (
	kindBits   = 3 // of a block's kind, and of whether it is the last one
	byteBits   = 8
	sizeBits   = 16
	mostStored = 1<<sizeBits - 1
)

// block is some steps, and what must be known of them to choose its way.
type block struct {
	steps  []match.Step
	size   int // of the bytes that they make
	bytes  []byte
	counts counts
	own    *heading
}

// counted is the block of steps that make so many bytes; which bytes these are is asked only when it is written.
func counted(l []match.Step, size int) *block {
	b := &block{steps: l, size: size}
	tell(l, &b.counts)
	b.own = headed(&b.counts)
	return b
}

func (b *block) storable() bool { return b.size <= mostStored }

// storedBits is how many bits the block takes behind so many, if it is stored.
func (b *block) storedBits(at int) int {
	filled := (at + kindBits + byteBits - 1) / byteBits * byteBits
	return filled - at + 2*sizeBits + byteBits*b.size
}

func (b *block) fixedBits() int { return kindBits + b.wordBits(fixedSigns(), fixedDistances()) }

func (b *block) dynamicBits() int {
	return kindBits + b.own.bits() + b.wordBits(b.own.signs, b.own.distances)
}

// wordBits is how many bits the block's words take.
func (b *block) wordBits(signs, distances []int) int {
	return huff.Cost(b.counts.signs[:], signs) + huff.Cost(b.counts.distances[:], distances) + b.counts.bits
}

// shortest is the kind of the fewest bits behind so many; the first one of equal ones.
func (b *block) shortest(at int) int {
	sizes := [...]int{stored: math.MaxInt, fixed: b.fixedBits(), dynamic: b.dynamicBits()}
	if b.storable() {
		sizes[stored] = b.storedBits(at)
	}
	return slices.Index(sizes[:], slices.Min(sizes[:]))
}

// write lays the block behind w.
func (b *block) write(w *bits.Writer, last bool) {
	ways := [...]func(*bits.Writer){stored: b.writeStored, fixed: b.writeFixed, dynamic: b.writeDynamic}
	kind := b.shortest(w.Len())
	w.Put(uint64(one(last)), 1)
	w.Put(uint64(kind), 2)
	ways[kind](w)
}

// one is the bit that tells whether something is so.
func one(is bool) int {
	if is {
		return 1
	}
	return 0
}

func (b *block) writeStored(w *bits.Writer) {
	w.Align()
	w.Put(uint64(b.size), sizeBits)
	w.Put(uint64(b.size)^mostStored, sizeBits)
	w.Bytes(b.bytes)
}

func (b *block) writeFixed(w *bits.Writer) { b.writeWords(w, fixedSigns(), fixedDistances()) }

func (b *block) writeDynamic(w *bits.Writer) {
	b.own.write(w)
	b.writeWords(w, b.own.signs, b.own.distances)
}

// writeWords lays the block's words by codes of these lengths.
func (b *block) writeWords(w *bits.Writer, signs, distances []int) {
	tell(b.steps, &writer{w: w, signs: coded(signs), distances: coded(distances)})
}

func fixedSigns() []int {
	return slices.Concat(slices.Repeat([]int{8}, 144), slices.Repeat([]int{9}, 112), slices.Repeat([]int{7}, 24), slices.Repeat([]int{8}, 8))
}

func fixedDistances() []int { return slices.Repeat([]int{5}, 32) }

// code is the codes by lengths.
type code struct {
	lens  []int
	codes []uint32
}

func coded(lens []int) code {
	codes, _ := huff.Codes(lens)
	return code{lens: lens, codes: codes}
}

// write lays what stands for a sign behind w.
func (c code) write(w *bits.Writer, sign int) { w.Code(uint64(c.codes[sign]), c.lens[sign]) }

// writer lays the words that it hears.
type writer struct {
	w                *bits.Writer
	signs, distances code
}

func (x *writer) sign(n int)       { x.signs.write(x.w, n) }
func (x *writer) distance(n int)   { x.distances.write(x.w, n) }
func (x *writer) more(n, many int) { x.w.Put(uint64(n), many) }
