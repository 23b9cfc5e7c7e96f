package huff_test

import (
	"math"
	"math/rand"
	"slices"
	"testing"

	"portolan/api"
	"portolan/huff"
)

// pack is an item or a package of the chapter's words, with all symbols that are in it.
type pack struct {
	count   int
	symbols []int
}

// lengthsOf is the chapter's words for lengths from counts, as plain as can be: packages keep what is in them.
func lengthsOf(counts []int, limit int) []int {
	lens := make([]int, len(counts))
	var items []pack
	for symbol, count := range counts {
		if count > 0 {
			items = append(items, pack{count, []int{symbol}})
		}
	}
	if len(items) == 1 {
		lens[items[0].symbols[0]] = 1
	}
	if len(items) < 2 {
		return lens
	}
	rising := func(a, b pack) int {
		switch {
		case a.count < b.count:
			return -1
		case a.count > b.count:
			return 1
		}
		return 0
	}
	slices.SortStableFunc(items, rising)
	list := items
	for range limit - 1 {
		next := slices.Clone(items)
		for k := 0; k+1 < len(list); k += 2 {
			next = append(next, pack{list[k].count + list[k+1].count, slices.Concat(list[k].symbols, list[k+1].symbols)})
		}
		slices.SortStableFunc(next, rising)
		list = next
	}
	for _, p := range list[:2*len(items)-2] {
		for _, symbol := range p.symbols {
			lens[symbol]++
		}
	}
	return lens
}

// anyCounts tells n counts: small ones (many equal), great ones, or such as need long codes; some are 0.
func anyCounts(random *rand.Rand, n int) []int {
	counts := make([]int, n)
	kind := random.Intn(4)
	for k := range counts {
		switch kind {
		case 0:
			counts[k] = random.Intn(4)
		case 1:
			counts[k] = random.Intn(1<<32 + 1)
		case 2:
			counts[k] = 1 << random.Intn(33)
		case 3:
			counts[k] = random.Intn(100) * random.Intn(2)
		}
	}
	return counts
}

// above0 is how many counts are.
func above0(counts []int) int {
	n := 0
	for _, count := range counts {
		if count > 0 {
			n++
		}
	}
	return n
}

// P4.2: lengths that are known: the chapter's, one symbol, none, and equal counts, where the order of items and packages tells.
func TestLengths(t *testing.T) {
	cases := []struct {
		counts []int
		limit  int
		want   []int
	}{
		{[]int{1, 1, 2, 4}, 15, []int{3, 3, 2, 1}},
		{[]int{1, 1, 2, 4}, 3, []int{3, 3, 2, 1}},
		{[]int{1, 1, 2, 4}, 2, []int{2, 2, 2, 2}},
		{nil, 15, nil},
		{[]int{}, 1, nil},
		{[]int{0}, 15, []int{0}},
		{[]int{0, 0, 0}, 1, []int{0, 0, 0}},
		{[]int{1}, 15, []int{1}},
		{[]int{1}, 1, []int{1}},
		{[]int{0, 0, 7, 0}, 15, []int{0, 0, 1, 0}},
		{[]int{1 << 32}, 7, []int{1}},
		{[]int{5, 9}, 15, []int{1, 1}},
		{[]int{9, 5}, 1, []int{1, 1}},
		{[]int{0, 3, 0, 0, 8, 0}, 1, []int{0, 1, 0, 0, 1, 0}},
		{[]int{1, 1, 1}, 15, []int{2, 2, 1}},
		{[]int{1, 1, 1}, 2, []int{2, 2, 1}},
		{[]int{2, 1, 1}, 2, []int{1, 2, 2}},
		{[]int{1, 1, 2, 2}, 15, []int{2, 2, 2, 2}},
		{[]int{2, 2, 1, 1}, 15, []int{2, 2, 2, 2}},
		{[]int{1, 1, 1, 1, 1}, 15, []int{3, 3, 2, 2, 2}},
		{[]int{1, 1, 2, 3, 5, 8}, 15, []int{5, 5, 4, 3, 2, 1}},
		{[]int{1, 1, 2, 3, 5, 8}, 4, []int{4, 4, 3, 2, 2, 2}},
		{[]int{1, 1, 2, 3, 5, 8}, 3, []int{3, 3, 3, 3, 2, 2}},
		{[]int{4, 0, 2, 1, 0, 1}, 15, []int{1, 0, 2, 3, 0, 3}},
		{[]int{1 << 32, 1 << 32, 1 << 32, 1 << 32}, 15, []int{2, 2, 2, 2}},
	}
	for _, c := range cases {
		if got, e := huff.Lengths(c.counts, c.limit); !slices.Equal(got, c.want) || e != api.OK {
			t.Errorf("Lengths(%v, %d): %v, %d, want %v", c.counts, c.limit, got, e, c.want)
		}
	}
}

// P4.2: all short rows of small counts, by each limit, held against the chapter's words.
func TestLengthsOfAllShortRows(t *testing.T) {
	for limit := 1; limit <= 15; limit++ {
		eachRow(6, 3, func(counts []int) {
			got, e := huff.Lengths(counts, limit)
			if above0(counts) > 1<<limit {
				if len(got) != 0 || e != api.ErrArg {
					t.Fatalf("Lengths(%v, %d): %v, %d", counts, limit, got, e)
				}
				return
			}
			if want := lengthsOf(counts, limit); !slices.Equal(got, want) || e != api.OK {
				t.Fatalf("Lengths(%v, %d): %v, %d, want %v", counts, limit, got, e, want)
			}
		})
	}
}

// P4.2: long rows of all kinds of counts, held against the chapter's words.
func TestLengthsAsWords(t *testing.T) {
	random := rand.New(rand.NewSource(43))
	for _, most := range []int{10, 40, 300} {
		for range 80 {
			counts := anyCounts(random, random.Intn(most))
			limit := 1 + random.Intn(15)
			for above0(counts) > 1<<limit {
				limit++
			}
			want := lengthsOf(counts, limit)
			if got, e := huff.Lengths(counts, limit); !slices.Equal(got, want) || e != api.OK {
				t.Fatalf("Lengths(%v, %d): %v, %d, want %v", counts, limit, got, e, want)
			}
		}
	}
}

// P4.2: counts that need codes as long as the limit, and longer.
func TestLengthsOfSteepCounts(t *testing.T) {
	var counts []int
	for k := range 33 {
		counts = append(counts, 1<<k)
	}
	for limit := 6; limit <= 15; limit++ {
		got, e := huff.Lengths(counts, limit)
		if e != api.OK || !slices.Equal(got, lengthsOf(counts, limit)) || slices.Max(got) != limit {
			t.Errorf("by %d: %v, %d", limit, got, e)
		}
	}
	if got, e := huff.Lengths(counts[:16], 15); e != api.OK || !slices.Equal(got, []int{15, 15, 14, 13, 12, 11, 10, 9, 8, 7, 6, 5, 4, 3, 2, 1}) {
		t.Errorf("%v, %d", got, e)
	}
}

// P4.2: as many symbols as a limit takes all have that length; one more is refused, and symbols of no count do not count.
func TestLengthsOfAsManyAsTheLimitTakes(t *testing.T) {
	for limit := 1; limit <= 10; limit++ {
		counts := anyCounts(rand.New(rand.NewSource(int64(limit))), 1<<limit)
		for k := range counts {
			counts[k] = max(counts[k], 1)
		}
		for range min(7, 1024-len(counts)) {
			counts = slices.Insert(counts, len(counts)/2, 0)
		}
		got, e := huff.Lengths(counts, limit)
		if e != api.OK || len(got) != len(counts) {
			t.Fatalf("by %d: %d lengths, %d", limit, len(got), e)
		}
		for symbol, count := range counts {
			if count == 0 && got[symbol] != 0 || count > 0 && got[symbol] != limit {
				t.Fatalf("by %d: a length %d of a count %d", limit, got[symbol], count)
			}
		}
		if limit < 10 {
			if got, e := huff.Lengths(append(counts, 1), limit); len(got) != 0 || e != api.ErrArg {
				t.Errorf("one more, by %d: %v, %d", limit, got, e)
			}
		}
	}
	if got, e := huff.Lengths(same(1024, 1), 9); len(got) != 0 || e != api.ErrArg {
		t.Errorf("1024 by 9: %v, %d", got, e)
	}
}

// P4.2: the edges of counts and limits, and what is behind them.
func TestLengthsOfWrongInputs(t *testing.T) {
	cases := []struct {
		name   string
		counts []int
		limit  int
		want   api.Errno
	}{
		{"limit 0", []int{1, 1}, 0, api.ErrArg},
		{"limit 0 of none", nil, 0, api.ErrArg},
		{"limit -1", []int{1}, -1, api.ErrArg},
		{"limit 16", []int{1, 1}, 16, api.ErrArg},
		{"limit 64", []int{1, 1}, 64, api.ErrArg},
		{"least limit", nil, math.MinInt, api.ErrArg},
		{"most limit", nil, math.MaxInt, api.ErrArg},
		{"limit 15", []int{1, 1}, 15, api.OK},
		{"limit 1", []int{1, 1}, 1, api.OK},
		{"three by 1", []int{1, 1, 1}, 1, api.ErrArg},
		{"-1", []int{-1}, 15, api.ErrArg},
		{"-1 last", []int{1, 1, 0, -1}, 15, api.ErrArg},
		{"-1 ahead", []int{-1, 1, 1}, 15, api.ErrArg},
		{"least", []int{math.MinInt, 1}, 15, api.ErrArg},
		{"2^32", []int{1 << 32, 1, 1 << 32}, 15, api.OK},
		{"2^32 + 1", []int{1<<32 + 1}, 15, api.ErrArg},
		{"2^32 + 1 last", []int{1, 1, 1<<32 + 1}, 15, api.ErrArg},
		{"most", []int{math.MaxInt, 1}, 15, api.ErrArg},
		{"1024", same(1024, 1), 15, api.OK},
		{"1024 by 10", same(1024, 1<<32), 10, api.OK},
		{"1024 of 0", same(1024, 0), 1, api.OK},
		{"1025", same(1025, 1), 15, api.ErrArg},
		{"1025 of 0", same(1025, 0), 15, api.ErrArg},
		{"1024 of 0, and 1", append(same(1024, 0), 1), 15, api.ErrArg},
	}
	for _, c := range cases {
		got, e := huff.Lengths(c.counts, c.limit)
		if e != c.want {
			t.Errorf("%s: %d, want %d", c.name, e, c.want)
		}
		if e != api.OK && len(got) != 0 || e == api.OK && len(got) != len(c.counts) {
			t.Errorf("%s: %d lengths beside %d", c.name, len(got), e)
		}
	}
}

// P4.2: each count by its length, of as many as both have.
func TestCost(t *testing.T) {
	cases := []struct {
		counts, lens []int
		want         int
	}{
		{nil, nil, 0},
		{nil, []int{1, 2}, 0},
		{[]int{1, 2}, nil, 0},
		{[]int{5}, []int{3}, 15},
		{[]int{1, 1, 2, 4}, []int{3, 3, 2, 1}, 14},
		{[]int{1, 1, 2, 4}, []int{2, 2, 2, 2}, 16},
		{[]int{1, 1, 2, 4}, []int{3, 3}, 6},
		{[]int{1, 1}, []int{3, 3, 2, 1}, 6},
		{[]int{0, 7, 3}, []int{15, 0, 2}, 6},
		{same(1024, 1<<32), same(1024, 15), 15 << 42},
		{same(3000, 2), same(2000, 3), 12000},
		{[]int{-4, 5}, []int{3, -2}, -22},
		{[]int{math.MaxInt, 1}, []int{1, 100}, math.MinInt + 99},
	}
	for _, c := range cases {
		if got := huff.Cost(c.counts, c.lens); got != c.want {
			t.Errorf("Cost(%.20v, %.20v): %d, want %d", c.counts, c.lens, got, c.want)
		}
	}
}

// P4.2 (R3): counts and lengths are only read; what is answered is new each time.
func TestLengthsKeepNothing(t *testing.T) {
	counts := []int{4, 1, 0, 2, 1}
	was := slices.Clone(counts)
	first, _ := huff.Lengths(counts, 15)
	lens := slices.Clone(first)
	huff.Cost(counts, first)
	if !slices.Equal(counts, was) || !slices.Equal(first, lens) {
		t.Fatal("what was handed in was changed")
	}
	first[0] = 99
	if again, _ := huff.Lengths(counts, 15); !slices.Equal(again, lens) {
		t.Errorf("%v, then %v", lens, again)
	}
}
