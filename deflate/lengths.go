package deflate

import (
	"slices"

	"portolan/bits"
	"portolan/huff"
)

// The signs by which lengths are told: those below are lengths themselves.
const (
	again     = 16
	zeros     = 17
	manyZeros = 18
	tellers   = 19 // how many there are
)

const (
	tellerLimit = 7
	leastTold   = 4 // so many lengths of these signs' own codes are told at least
)

// order is the one in which those lengths stand: what nothing is told by is left out at its end.
var order = [tellers]int{16, 17, 18, 0, 8, 7, 9, 6, 10, 5, 11, 4, 12, 3, 13, 2, 14, 1, 15}

// heading is what stands ahead of a dynamic block's words.
type heading struct {
	signs, distances []int // the lengths of codes, as many as are told
	runs             []run // how they are told, one row
	tellers          []int // the lengths of the codes by which
	told             int   // how many of these are told
}

// run is a sign that tells one length, or some equal ones, with the bits behind it.
type run struct{ sign, more, many int }

// headed is the heading that is the best for what stands in a block.
func headed(c *counts) *heading {
	h := &heading{signs: fitted(c.signs[:], huff.Longest), distances: fitted(c.distances[:], huff.Longest)}
	h.signs = h.signs[:max(end+1, used(h.signs))]
	h.distances = h.distances[:max(1, used(h.distances))]
	h.runs = runs(slices.Concat(h.signs, h.distances))
	var often [tellers]int
	for _, r := range h.runs {
		often[r.sign]++
	}
	h.tellers = fitted(often[:], tellerLimit)
	for h.told = tellers; h.told > leastTold && h.tellers[order[h.told-1]] == 0; {
		h.told--
	}
	return h
}

// fitted is the lengths that are the best for counts. None of a block's counts is refused: it has too few signs, and too few steps, for that.
func fitted(counts []int, limit int) []int {
	lens, _ := huff.Lengths(counts, limit)
	return lens
}

// used is how many lengths there are up to the last one that is not 0.
func used(lens []int) int {
	many := len(lens)
	for many > 0 && lens[many-1] == 0 {
		many--
	}
	return many
}

// runs tells a row of lengths.
func runs(lens []int) []run {
	var l []run
	for at := 0; at < len(lens); {
		r, times := next(lens[at:], at > 0 && lens[at-1] == lens[at])
		l = append(l, r)
		at += times
	}
	return l
}

// next tells what lens begin with, and how many of them; known is whether such a length stands right ahead.
func next(lens []int, known bool) (r run, times int) {
	n := alike(lens)
	switch zero := lens[0] == 0; {
	case zero && n >= 11:
		n = min(n, 138)
		return run{sign: manyZeros, more: n - 11, many: 7}, n
	case zero && n >= 3:
		return run{sign: zeros, more: n - 3, many: 3}, n
	case known && n >= 3:
		n = min(n, 6)
		return run{sign: again, more: n - 3, many: 2}, n
	}
	return run{sign: lens[0]}, 1
}

// alike is how many equal ones lens begin with.
func alike(lens []int) int {
	n := 1
	for n < len(lens) && lens[n] == lens[0] {
		n++
	}
	return n
}

// bits is how many bits the heading takes.
func (h *heading) bits() int {
	sum := 5 + 5 + 4 + 3*h.told
	for _, r := range h.runs {
		sum += h.tellers[r.sign] + r.many
	}
	return sum
}

// write lays the heading behind w.
func (h *heading) write(w *bits.Writer) {
	w.Put(uint64(len(h.signs)-end-1), 5)
	w.Put(uint64(len(h.distances)-1), 5)
	w.Put(uint64(h.told-leastTold), 4)
	for k := range h.told {
		w.Put(uint64(h.tellers[order[k]]), 3)
	}
	by := coded(h.tellers)
	for _, r := range h.runs {
		by.write(w, r.sign)
		w.Put(uint64(r.more), r.many)
	}
}
