package deflate_test

import (
	"fmt"
	"strings"
	"testing"

	"portolan/api"
	"portolan/deflate"
	"portolan/huff"
	"portolan/match"
)

// The chapter read in the plainest way: rows of bits are texts of 0 and 1, and each of the three blocks is made in full.

// asCode tells a number highest bit first.
func asCode(n uint32, many int) string {
	if many == 0 {
		return ""
	}
	return fmt.Sprintf("%0*b", many, n)
}

// asNumber tells a number lowest bit first.
func asNumber(n, many int) string {
	turned := []byte(asCode(uint32(n), many))
	for k := range many / 2 {
		turned[k], turned[many-1-k] = turned[many-1-k], turned[k]
	}
	return string(turned)
}

// inBytes fills a row up, and tells its bytes.
func inBytes(row string) []byte {
	b := make([]byte, (len(row)+7)/8)
	for k, bit := range row {
		b[k/8] |= byte(bit-'0') << (k % 8)
	}
	return b
}

// word is a sign of one of the two codes, or bits behind one.
type word struct {
	code int // 0 the signs', 1 the distances', 2 none: bits
	sign int
	bits string
}

// longSign and farSign go up from the least one, a sign after the other.
func longSign(n int) (sign int, bits string) {
	if n == 258 {
		return 285, ""
	}
	from := 3
	for sign := 257; ; sign++ {
		more := max(0, (sign-257)/4-1)
		if n < from+1<<more {
			return sign, asNumber(n-from, more)
		}
		from += 1 << more
	}
}

func farSign(n int) (sign int, bits string) {
	from := 1
	for sign := 0; ; sign++ {
		more := max(0, sign/2-1)
		if n < from+1<<more {
			return sign, asNumber(n-from, more)
		}
		from += 1 << more
	}
}

func wordsOf(l []match.Step) []word {
	var words []word
	for _, s := range l {
		if s.Long == 0 {
			words = append(words, word{sign: int(s.Byte)})
			continue
		}
		sign, bits := longSign(s.Long)
		words = append(words, word{sign: sign}, word{code: 2, bits: bits})
		sign, bits = farSign(s.Far)
		words = append(words, word{code: 1, sign: sign}, word{code: 2, bits: bits})
	}
	return append(words, word{sign: 256})
}

func laidBy(words []word, lens ...[]int) string {
	var row strings.Builder
	codes := make([][]uint32, len(lens))
	for k := range lens {
		codes[k], _ = huff.Codes(lens[k])
	}
	for _, w := range words {
		row.WriteString(w.bits)
		if w.code < len(lens) {
			row.WriteString(asCode(codes[w.code][w.sign], lens[w.code][w.sign]))
		}
	}
	return row.String()
}

func plainFixed(words []word) string {
	signs, distances := make([]int, 288), make([]int, 32)
	for k := range signs {
		switch {
		case k < 144 || k > 279:
			signs[k] = 8
		case k < 256:
			signs[k] = 9
		default:
			signs[k] = 7
		}
	}
	for k := range distances {
		distances[k] = 5
	}
	return laidBy(words, signs, distances)
}

// toldLengths tells a row of lengths: of each run of equal ones what the chapter says.
func toldLengths(lens []int) []word {
	var words []word
	tell := func(sign, more, many int) {
		words = append(words, word{sign: sign}, word{code: 2, bits: asNumber(more, many)})
	}
	for len(lens) > 0 {
		n, length := 1, lens[0]
		for n < len(lens) && lens[n] == length {
			n++
		}
		lens = lens[n:]
		if length > 0 {
			tell(length, 0, 0)
			n--
		}
		for n > 0 {
			times := 1
			switch {
			case length == 0 && n >= 11:
				times = min(n, 138)
				tell(18, times-11, 7)
			case length == 0 && n >= 3:
				times = n
				tell(17, times-3, 3)
			case length > 0 && n >= 3:
				times = min(n, 6)
				tell(16, times-3, 2)
			default:
				tell(length, 0, 0)
			}
			n -= times
		}
	}
	return words
}

// lengthsOf are the best ones for how often a code's signs stand there.
func lengthsOf(words []word, code, signs, limit int) []int {
	counts := make([]int, signs)
	for _, w := range words {
		if w.code == code {
			counts[w.sign]++
		}
	}
	lens, e := huff.Lengths(counts, limit)
	if e != api.OK {
		panic(e)
	}
	return lens
}

func upToLast(lens []int, least int) []int {
	many := least
	for k, length := range lens {
		if length > 0 {
			many = max(many, k+1)
		}
	}
	return lens[:many]
}

func plainDynamic(words []word) string {
	signs := upToLast(lengthsOf(words, 0, 286, 15), 257)
	distances := upToLast(lengthsOf(words, 1, 30, 15), 1)
	told := toldLengths(append(append([]int{}, signs...), distances...))
	tellers := lengthsOf(told, 0, 19, 7)
	ordered := make([]int, 19)
	for k, sign := range strings.Fields("16 17 18 0 8 7 9 6 10 5 11 4 12 3 13 2 14 1 15") {
		var n int
		fmt.Sscan(sign, &n)
		ordered[k] = tellers[n]
	}
	ordered = upToLast(ordered, 4)
	row := asNumber(len(signs)-257, 5) + asNumber(len(distances)-1, 5) + asNumber(len(ordered)-4, 4)
	for _, length := range ordered {
		row += asNumber(length, 3)
	}
	return row + laidBy(told, tellers) + laidBy(words, signs, distances)
}

// threeWays tells what stands behind a row, in each of the three ways; one that may not be is empty.
func threeWays(row string, last bool, l []match.Step, bytes []byte) [3]string {
	head, words := "0", wordsOf(l)
	if last {
		head = "1"
	}
	var stored string
	if len(bytes) <= 65535 {
		stored = head + "00"
		for (len(row)+len(stored))%8 != 0 {
			stored += "0"
		}
		var laid strings.Builder
		for _, x := range bytes {
			laid.WriteString(asNumber(int(x), 8))
		}
		stored += asNumber(len(bytes), 16) + asNumber(65535-len(bytes), 16) + laid.String()
	}
	return [3]string{stored, head + "10" + plainFixed(words), head + "01" + plainDynamic(words)}
}

// plainStream is the stream of steps, and the kinds of its blocks.
func plainStream(l []match.Step) (b []byte, kinds []int) {
	all, _ := match.Expand(l, api.MaxBlob)
	row, first := "", true
	for ; first || len(l) > 0; first = false {
		part := l[:min(512, len(l))]
		l = l[len(part):]
		size := match.Size(part)
		kind, best := 0, ""
		for k, way := range threeWays(row, len(l) == 0, part, all[:size]) {
			if way != "" && (best == "" || len(way) < len(best)) {
				kind, best = k, way
			}
		}
		all = all[size:]
		row += best
		kinds = append(kinds, kind)
	}
	return inBytes(row), kinds
}

// plainSizes is what Sizes answers.
func plainSizes(l []match.Step) [3]int {
	all, _ := match.Expand(l, api.MaxBlob)
	var sizes [3]int
	for k, way := range threeWays("", true, l, all) {
		sizes[k] = len(way)
	}
	return sizes
}

// sizesAsPlain holds Sizes against the chapter.
func sizesAsPlain(t *testing.T, l []match.Step) [3]int {
	t.Helper()
	stored, fixed, dynamic, e := deflate.Sizes(l)
	got, want := [3]int{stored, fixed, dynamic}, plainSizes(l)
	if got != want || e != api.OK {
		t.Fatalf("%d steps: %v, %d; not %v", len(l), got, e, want)
	}
	return got
}
