package huff_test

import (
	"math"
	"math/big"
	"math/rand"
	"slices"
	"testing"

	"portolan/api"
	"portolan/huff"
)

// same tells n times x.
func same(n, x int) []int { return slices.Repeat([]int{x}, n) }

// fixedLengths is deflate's own lengths of its fixed blocks.
func fixedLengths() []int { return slices.Concat(same(144, 8), same(112, 9), same(24, 7), same(8, 8)) }

// staircase is the lengths 1 2 3 .. n n.
func staircase(n int) []int {
	var lens []int
	for length := 1; length <= n; length++ {
		lens = append(lens, length)
	}
	return append(lens, n)
}

// anyFull tells lengths that are full: a code is parted into two, again and again; with symbols of length 0 between.
func anyFull(random *rand.Rand, parts int) []int {
	lens := []int{1, 1}
	for range parts {
		k := random.Intn(len(lens))
		if lens[k] < huff.Longest {
			lens[k]++
			lens = append(lens, lens[k])
		}
	}
	for range random.Intn(5) {
		lens = append(lens, 0)
	}
	random.Shuffle(len(lens), func(i, j int) { lens[i], lens[j] = lens[j], lens[i] })
	return lens
}

// stateOf is the chapter's words for how lengths are, added up as fractions.
func stateOf(lens []int) int {
	sum := new(big.Rat)
	for _, length := range lens {
		if length > 0 {
			sum.Add(sum, big.NewRat(1, 1<<length))
		}
	}
	return sum.Cmp(big.NewRat(1, 1))
}

// codesOf is the chapter's words for codes, symbol by symbol.
func codesOf(lens []int) []uint32 {
	codes := make([]uint32, len(lens))
	code := uint32(0)
	for length := 1; length <= huff.Longest; length++ {
		code *= 2
		for symbol, l := range lens {
			if l == length {
				codes[symbol] = code
				code++
			}
		}
	}
	return codes
}

// eachRow hands on every row of numbers 0 to most, of 0 to n of them.
func eachRow(n, most int, visit func(row []int)) {
	var grow func(row []int)
	grow = func(row []int) {
		visit(slices.Clone(row))
		if len(row) == n {
			return
		}
		for x := range most + 1 {
			grow(append(row, x))
		}
	}
	grow(nil)
}

// wrongLengths is rows that are no lengths; some are too many besides.
func wrongLengths() map[string][]int {
	return map[string][]int{
		"-1":                 {-1},
		"16":                 {16},
		"least":              {math.MinInt},
		"most":               {math.MaxInt},
		"256":                {256},
		"2^32":               {1 << 32},
		"2^32 + 1":           {1<<32 + 1, 1},
		"-1 last":            {1, 1, -1},
		"16 last":            {1, 1, 16},
		"16 ahead":           {16, 1, 1},
		"too many, and 16":   {1, 1, 1, 16},
		"1025 of 0":          same(1025, 0),
		"1025 of 15":         same(1025, 15),
		"1025 of 1":          same(1025, 1),
		"1024 full, and 0":   append(same(1024, 10), 0),
		"1024 of 0, and -1":  append(same(1023, 0), -1),
		"2000, the last bad": append(same(1999, 11), 77),
	}
}

// P4.1: how lengths are, by name.
func TestState(t *testing.T) {
	cases := []struct {
		name string
		lens []int
		want int
	}{
		{"none", nil, huff.Wanting},
		{"empty", []int{}, huff.Wanting},
		{"one of 0", []int{0}, huff.Wanting},
		{"1024 of 0", same(1024, 0), huff.Wanting},
		{"one of 1", []int{1}, huff.Wanting},
		{"one of 15", []int{15}, huff.Wanting},
		{"two of 1", []int{1, 1}, huff.Full},
		{"two of 1, others of 0", []int{0, 1, 0, 0, 1, 0}, huff.Full},
		{"three of 1", []int{1, 1, 1}, huff.Many},
		{"full, and one of 15", []int{1, 15, 1}, huff.Many},
		{"example", []int{2, 1, 3, 3}, huff.Full},
		{"example, but one", []int{2, 1, 3}, huff.Wanting},
		{"fixed", fixedLengths(), huff.Full},
		{"staircase", staircase(15), huff.Full},
		{"staircase, but the last", staircase(15)[:15], huff.Wanting},
		{"staircase, and one more", append(staircase(15), 15), huff.Many},
		{"1024 of 10", same(1024, 10), huff.Full},
		{"1023 of 10", same(1023, 10), huff.Wanting},
		{"1023 of 10, and one of 9", append(same(1023, 10), 9), huff.Many},
		{"1024 of 15", same(1024, 15), huff.Wanting},
		{"1024 of 11", same(1024, 11), huff.Wanting},
		{"1024 of 1", same(1024, 1), huff.Many},
	}
	for _, c := range cases {
		if got, e := huff.State(c.lens); got != c.want || e != api.OK {
			t.Errorf("%s: %d, %d, want %d", c.name, got, e, c.want)
		}
	}
	if huff.Wanting != -1 || huff.Full != 0 || huff.Many != 1 || huff.Longest != 15 {
		t.Error("constants")
	}
}

// P4.1: State and Codes of all short rows, held against the chapter's words.
func TestStateAndCodesOfAllShortRows(t *testing.T) {
	eachRow(6, 4, func(lens []int) {
		want := stateOf(lens)
		if got, e := huff.State(lens); got != want || e != api.OK {
			t.Fatalf("State(%v): %d, %d, want %d", lens, got, e, want)
		}
		codes, e := huff.Codes(lens)
		if want == huff.Many {
			if len(codes) != 0 || e != api.ErrCode {
				t.Fatalf("Codes(%v): %v, %d", lens, codes, e)
			}
			return
		}
		if !slices.Equal(codes, codesOf(lens)) || e != api.OK {
			t.Fatalf("Codes(%v): %v, %d, want %v", lens, codes, e, codesOf(lens))
		}
	})
}

// P4.1: rows that are no lengths; ErrArg is ahead of ErrCode.
func TestStateAndCodesOfWrongLengths(t *testing.T) {
	for name, lens := range wrongLengths() {
		if got, e := huff.State(lens); got != 0 || e != api.ErrArg {
			t.Errorf("State, %s: %d, %d", name, got, e)
		}
		if got, e := huff.Codes(lens); len(got) != 0 || e != api.ErrArg {
			t.Errorf("Codes, %s: %v, %d", name, got, e)
		}
	}
}

// P4.1: codes that are known: the chapter's, RFC 1951's, and such as are wanting.
func TestCodes(t *testing.T) {
	cases := []struct {
		lens []int
		want []uint32
	}{
		{nil, nil},
		{[]int{0}, []uint32{0}},
		{[]int{0, 0, 0}, []uint32{0, 0, 0}},
		{[]int{1}, []uint32{0}},
		{[]int{15}, []uint32{0}},
		{[]int{0, 7, 0}, []uint32{0, 0, 0}},
		{[]int{1, 1}, []uint32{0, 1}},
		{[]int{2, 1, 3, 3}, []uint32{0b10, 0, 0b110, 0b111}},
		{[]int{3, 3, 3, 3, 3, 2, 4, 4}, []uint32{0b010, 0b011, 0b100, 0b101, 0b110, 0b00, 0b1110, 0b1111}},
		{[]int{2, 2}, []uint32{0, 1}},
		{[]int{5, 2}, []uint32{0b01000, 0b00}},
		{[]int{4, 0, 1, 4}, []uint32{0b1000, 0, 0, 0b1001}},
		{[]int{15, 1}, []uint32{1 << 14, 0}},
	}
	for _, c := range cases {
		if got, e := huff.Codes(c.lens); !slices.Equal(got, c.want) || e != api.OK {
			t.Errorf("%v: %b, %d, want %b", c.lens, got, e, c.want)
		}
	}
}

// P4.1: the codes of deflate's fixed blocks, and the longest ones.
func TestCodesOfLongRows(t *testing.T) {
	fixed, e := huff.Codes(fixedLengths())
	if e != api.OK || len(fixed) != 288 {
		t.Fatalf("%d codes, %d", len(fixed), e)
	}
	for _, c := range []struct{ from, to, code int }{{0, 144, 0b00110000}, {144, 256, 0b110010000}, {256, 280, 0}, {280, 288, 0b11000000}} {
		for symbol := c.from; symbol < c.to; symbol++ {
			if int(fixed[symbol]) != c.code+symbol-c.from {
				t.Errorf("symbol %d: %b", symbol, fixed[symbol])
			}
		}
	}
	stairs, e := huff.Codes(staircase(15))
	if e != api.OK || len(stairs) != 16 {
		t.Fatalf("%d codes, %d", len(stairs), e)
	}
	for symbol, code := range stairs {
		if want := uint32(1)<<min(symbol+1, 15) - 2; symbol < 15 && code != want || symbol == 15 && code != want+1 {
			t.Errorf("step %d: %b", symbol, code)
		}
	}
	all, e := huff.Codes(same(1024, 10))
	if e != api.OK || len(all) != 1024 {
		t.Fatalf("%d codes, %d", len(all), e)
	}
	for symbol, code := range all {
		if int(code) != symbol {
			t.Fatalf("symbol %d: %d", symbol, code)
		}
	}
}

// P4.1: codes of many symbols, held against the chapter's words.
func TestCodesAsWords(t *testing.T) {
	random := rand.New(rand.NewSource(41))
	for range 200 {
		lens := anyFull(random, random.Intn(600))
		if random.Intn(2) == 0 { // wanting
			lens[random.Intn(len(lens))] = 0
		}
		if got, e := huff.Codes(lens); !slices.Equal(got, codesOf(lens)) || e != api.OK {
			t.Fatalf("%v: %v, %d", lens, got, e)
		}
	}
}

// P4.1: the lowest n bits, the first one last; n is brought to 0 to 32.
func TestTurned(t *testing.T) {
	cases := []struct {
		code uint32
		n    int
		want uint32
	}{
		{0, 0, 0}, {1, 0, 0}, {math.MaxUint32, 0, 0}, {1, 1, 1}, {2, 1, 0}, {3, 1, 1}, {1, 3, 4}, {6, 3, 3}, {14, 3, 3},
		{0b110, 3, 0b011}, {0b1101, 4, 0b1011}, {1, 15, 1 << 14}, {1, 31, 1 << 30}, {1 << 31, 31, 0},
		{1, 32, 1 << 31}, {1 << 31, 32, 1}, {0x01234567, 32, 0xe6a2c480}, {math.MaxUint32, 32, math.MaxUint32},
	}
	for _, c := range cases {
		if got := huff.Turned(c.code, c.n); got != c.want {
			t.Errorf("Turned(%x, %d): %x, want %x", c.code, c.n, got, c.want)
		}
	}
	random := rand.New(rand.NewSource(42))
	for range 300 {
		code := random.Uint32()
		for n := range 33 {
			var want uint32
			for k := range n {
				want += (code >> k & 1) << (n - 1 - k)
			}
			if got := huff.Turned(code, n); got != want {
				t.Fatalf("Turned(%x, %d): %x, want %x", code, n, got, want)
			}
		}
		for _, n := range []int{-1, -32, math.MinInt} {
			if got := huff.Turned(code, n); got != 0 {
				t.Fatalf("Turned(%x, %d): %x", code, n, got)
			}
		}
		for _, n := range []int{33, 64, 1 << 32, math.MaxInt} {
			if got := huff.Turned(code, n); got != huff.Turned(code, 32) {
				t.Fatalf("Turned(%x, %d): %x", code, n, got)
			}
		}
	}
}

// P4.1 (R3): lengths are only read; what is answered is new each time.
func TestCodesKeepNothing(t *testing.T) {
	lens := []int{2, 1, 3, 3}
	was := slices.Clone(lens)
	first, _ := huff.Codes(lens)
	huff.State(lens)
	first[0], first[3] = 99, 99
	if !slices.Equal(lens, was) {
		t.Fatal("the lengths were changed")
	}
	if again, _ := huff.Codes(lens); !slices.Equal(again, []uint32{2, 0, 6, 7}) {
		t.Errorf("%v", again)
	}
}
