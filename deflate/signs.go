package deflate

import (
	"sort"

	"portolan/match"
)

const (
	end       = 256 // what closes a block; bytes are below it, copies' lengths above
	signs     = 286
	distances = 30
)

// span is what a sign tells: from a number on, as many as so many bits more have.
type span struct{ from, bits int }

// The spans of lengths, from sign 257 on. What the last one tells alone the one ahead of it could tell too.
var longs = [signs - end - 1]span{
	{3, 0}, {4, 0}, {5, 0}, {6, 0}, {7, 0}, {8, 0}, {9, 0}, {10, 0},
	{11, 1}, {13, 1}, {15, 1}, {17, 1},
	{19, 2}, {23, 2}, {27, 2}, {31, 2},
	{35, 3}, {43, 3}, {51, 3}, {59, 3},
	{67, 4}, {83, 4}, {99, 4}, {115, 4},
	{131, 5}, {163, 5}, {195, 5}, {227, 5},
	{258, 0},
}

// The spans of distances.
var fars = [distances]span{
	{1, 0}, {2, 0}, {3, 0}, {4, 0},
	{5, 1}, {7, 1}, {9, 2}, {13, 2},
	{17, 3}, {25, 3}, {33, 4}, {49, 4},
	{65, 5}, {97, 5}, {129, 6}, {193, 6},
	{257, 7}, {385, 7}, {513, 8}, {769, 8},
	{1025, 9}, {1537, 9}, {2049, 10}, {3073, 10},
	{4097, 11}, {6145, 11}, {8193, 12}, {12289, 12},
	{16385, 13}, {24577, 13},
}

// Long: P7.3.
func Long(n int) (sign, bits, more int) {
	if n < match.Least || n > match.Most {
		return 0, 0, 0
	}
	k := sort.Search(len(longs), func(k int) bool { return longs[k].from > n }) - 1
	return end + 1 + k, longs[k].bits, n - longs[k].from
}

// Far: P7.3.
func Far(n int) (sign, bits, more int) {
	if n < 1 || n > match.Farthest {
		return 0, 0, 0
	}
	k := sort.Search(len(fars), func(k int) bool { return fars[k].from > n }) - 1
	return k, fars[k].bits, n - fars[k].from
}

// hearer is told a block's words.
type hearer interface {
	sign(n int)
	distance(n int)
	more(n, many int)
}

// tell tells the words of steps, one by one, up to the sign at the end.
func tell(l []match.Step, to hearer) {
	for _, s := range l {
		if s.Long == 0 {
			to.sign(int(s.Byte))
			continue
		}
		sign, many, more := Long(s.Long)
		to.sign(sign)
		to.more(more, many)
		sign, many, more = Far(s.Far)
		to.distance(sign)
		to.more(more, many)
	}
	to.sign(end)
}

// counts hears how often each sign stands in a block, and how many bits stand behind signs.
type counts struct {
	signs     [signs]int
	distances [distances]int
	bits      int
}

func (c *counts) sign(n int)       { c.signs[n]++ }
func (c *counts) distance(n int)   { c.distances[n]++ }
func (c *counts) more(_, many int) { c.bits += many }
