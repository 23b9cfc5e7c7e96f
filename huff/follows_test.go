package huff_test

import (
	"container/heap"
	"math/rand"
	"slices"
	"testing"

	"portolan/api"
	"portolan/huff"
)

// leastCost tries all rows of lengths that are not too many, none above the limit, for counts that are all above 0.
func leastCost(counts []int, limit int) int {
	best := -1
	var try func(k, room, cost int)
	try = func(k, room, cost int) {
		if room < 0 || best >= 0 && cost >= best {
			return
		}
		if k == len(counts) {
			best = cost
			return
		}
		for length := 1; length <= limit; length++ {
			try(k+1, room-1<<(limit-length), cost+counts[k]*length)
		}
	}
	try(0, 1<<limit, 0)
	return best
}

type sums []int

func (s sums) Len() int           { return len(s) }
func (s sums) Less(i, j int) bool { return s[i] < s[j] }
func (s sums) Swap(i, j int)      { s[i], s[j] = s[j], s[i] }
func (s *sums) Push(x any)        { *s = append(*s, x.(int)) }
func (s *sums) Pop() any {
	last := (*s)[len(*s)-1]
	*s = (*s)[:len(*s)-1]
	return last
}

// huffmanCost is the least cost without a limit: the two least sums are put together, again and again.
func huffmanCost(counts []int) int {
	s := sums(slices.Clone(counts))
	heap.Init(&s)
	cost := 0
	for s.Len() > 1 {
		sum := heap.Pop(&s).(int) + heap.Pop(&s).(int)
		cost += sum
		heap.Push(&s, sum)
	}
	return cost
}

// P4.4: no row that may be costs less: of a few symbols, all rows are tried.
func TestLeastOfFewSymbols(t *testing.T) {
	random := rand.New(rand.NewSource(46))
	for limit := 1; limit <= 6; limit++ {
		for range 60 {
			counts := make([]int, 2+random.Intn(min(1<<limit, 7)-1))
			for k := range counts {
				counts[k] = 1 + random.Intn(1<<random.Intn(9))
			}
			lens, e := huff.Lengths(counts, limit)
			if e != api.OK {
				t.Fatalf("Lengths(%v, %d): %d", counts, limit, e)
			}
			if got, want := huff.Cost(counts, lens), leastCost(counts, limit); got != want {
				t.Fatalf("Lengths(%v, %d): %v costs %d, not %d", counts, limit, lens, got, want)
			}
		}
	}
}

// P4.4: where the limit does not press, the cost is that of no limit; a lesser limit never costs less.
func TestLeastOfManySymbols(t *testing.T) {
	random := rand.New(rand.NewSource(47))
	for range 60 {
		counts := make([]int, 2+random.Intn(299))
		for k := range counts {
			counts[k] = 500 + random.Intn(1500)
		}
		last := huffmanCost(counts)
		for limit := 15; 1<<limit >= len(counts); limit-- {
			lens, e := huff.Lengths(counts, limit)
			if e != api.OK {
				t.Fatalf("%d symbols by %d: %d", len(counts), limit, e)
			}
			got := huff.Cost(counts, lens)
			if limit == 15 && got != last || got < last {
				t.Fatalf("%d symbols by %d: %d behind %d", len(counts), limit, got, last)
			}
			last = got
		}
	}
}

// P4.4, P4.5: each symbol of a count has a length, none above the limit, the others none; they are full, and fall with rising counts.
func TestLengthsAreFullAndFall(t *testing.T) {
	random := rand.New(rand.NewSource(48))
	for range 400 {
		counts := anyCounts(random, random.Intn(300))
		limit := 1 + random.Intn(15)
		for above0(counts) > 1<<limit {
			limit++
		}
		lens, e := huff.Lengths(counts, limit)
		if e != api.OK || len(lens) != len(counts) {
			t.Fatalf("%d lengths of %d, %d", len(lens), len(counts), e)
		}
		if state, e := huff.State(lens); above0(counts) > 1 && (state != huff.Full || e != api.OK) {
			t.Fatalf("Lengths(%v, %d): %v: %d, %d", counts, limit, lens, state, e)
		}
		for a, count := range counts {
			if (count > 0) != (lens[a] > 0) || lens[a] > limit {
				t.Fatalf("by %d: a length %d of a count %d", limit, lens[a], count)
			}
			for b, other := range counts {
				if count > 0 && other > count && lens[b] > lens[a] {
					t.Fatalf("counts %d, %d have lengths %d, %d", count, other, lens[a], lens[b])
				}
			}
		}
	}
}

// P4.6: no code is the beginning of another one, also if they are wanting.
func TestNoCodeBeginsAnother(t *testing.T) {
	random := rand.New(rand.NewSource(49))
	for range 100 {
		lens := anyFull(random, random.Intn(200))
		if random.Intn(2) == 0 {
			lens[random.Intn(len(lens))] = 0
		}
		codes, e := huff.Codes(lens)
		if e != api.OK {
			t.Fatalf("%v: %d", lens, e)
		}
		for a := range lens {
			if lens[a] == 0 {
				continue
			}
			if codes[a]>>lens[a] != 0 {
				t.Fatalf("%v: code %b of %d bits", lens, codes[a], lens[a])
			}
			for b := range lens {
				if a != b && lens[b] >= lens[a] && codes[b]>>(lens[b]-lens[a]) == codes[a] {
					t.Fatalf("%v: %d begins %d", lens, a, b)
				}
			}
		}
	}
}

// P4.6: by a full book each row of 15 bits begins with just one code, and Next tells whose.
func TestEachRowBeginsWithJustOneCode(t *testing.T) {
	random := rand.New(rand.NewSource(50))
	rows := [][]int{{1, 1}, {2, 1, 3, 3}, fixedLengths(), staircase(15)}
	for range 3 {
		rows = append(rows, anyFull(random, 100))
	}
	for _, lens := range rows {
		codes, e := huff.Codes(lens)
		if e != api.OK {
			t.Fatalf("%v: %d", lens, e)
		}
		b := book(t, lens)
		for row := range uint32(1 << 15) {
			whose, many := 0, 0
			for symbol, length := range lens {
				if length > 0 && row>>(15-length) == codes[symbol] {
					whose, many = symbol, many+1
				}
			}
			if many != 1 {
				t.Fatalf("%v: %015b begins with %d codes", lens, row, many)
			}
			if got, e, calls := reads(b, rowOf(row, 15)); got != whose || e != api.OK || calls != lens[whose] {
				t.Fatalf("%v: %015b: %d, %d behind %d bits, want %d", lens, row, got, e, calls, whose)
			}
		}
	}
}

// P4.1 to P4.3: counts to lengths to codes to symbols, through bits that stand turned round.
func TestThereAndBack(t *testing.T) {
	random := rand.New(rand.NewSource(51))
	for range 60 {
		counts := anyCounts(random, 2+random.Intn(280))
		counts[0], counts[1] = 1, 1
		lens, e := huff.Lengths(counts, 15)
		if e != api.OK {
			t.Fatal(e)
		}
		codes, e := huff.Codes(lens)
		if e != api.OK {
			t.Fatal(e)
		}
		b := book(t, lens)
		for symbol, length := range lens {
			if length == 0 {
				continue
			}
			turned := huff.Turned(codes[symbol], length)
			got, e := b.Next(func() (uint32, api.Errno) {
				bit := turned & 1
				turned >>= 1
				return bit, api.OK
			})
			if got != symbol || e != api.OK || turned != 0 {
				t.Fatalf("symbol %d of %v: %d, %d", symbol, lens, got, e)
			}
		}
	}
}
