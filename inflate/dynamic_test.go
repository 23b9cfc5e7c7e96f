package inflate_test

import (
	"slices"
	"testing"

	"portolan/api"
	"portolan/huff"
	"portolan/match"
)

// P6.1: dynamic blocks of a few lengths each.
func TestDynamic(t *testing.T) {
	lens, apart := longLengths()
	var r row
	r.dynamic(true, lens, apart, append(literals("some text"), copied(258, 9), copied(3, 1))...)
	want, _ := match.Expand(append(literals("some text"), copied(258, 9), copied(3, 1)), plenty)
	goes(t, "all signs", r.inBytes(), want)

	// as few as there can be: one byte, the end; one distance that has none
	few := same(257, 0)
	few['x'], few[256] = 1, 1
	r = nil
	r.dynamic(true, few, []int{0}, literals("xxx")...)
	goes(t, "few", r.inBytes(), []byte("xxx"))

	// codes of 15 bits
	deep := same(257, 0)
	for k := range 15 {
		deep['a'+k] = k + 1
	}
	deep[256] = 15
	r = nil
	r.dynamic(true, deep, []int{0}, literals("onmlkjihgfedcba")...)
	goes(t, "deep", r.inBytes(), []byte("onmlkjihgfedcba"))
}

// P6.1: how many lengths there may be, and more, which are refused behind all three numbers, ahead of what comes then.
func TestNumbersOfLengths(t *testing.T) {
	for signs := 257; signs <= 288; signs++ {
		for distances := 1; distances <= 32; distances++ {
			var r row
			if signs <= 286 && distances <= 30 {
				lens := same(signs, 0)
				lens['x'], lens[256] = 1, 1
				r.dynamic(true, lens, same(distances, 0), literals("xx")...)
				goes(t, "numbers", r.inBytes(), []byte("xx"))
				continue
			}
			r.head(true, 2)
			r.number(signs-257, 5)
			r.number(distances-1, 5)
			b := r.inBytes() // of the third number there are three of four bits
			fails(t, "the third number is wanting", b, plenty, api.ErrShort)
			fails(t, "all three", append(b, 0), plenty, api.ErrCode)
		}
	}
}

// P6.1: how many lengths of the signs that tell lengths stand there, in which order: those that do not stand there have none.
func TestNumbersOfTellers(t *testing.T) {
	for many := 5; many <= 19; many++ {
		lens := fullOf(tellerOrder[many-1])
		counts := same(19, 0)
		for _, length := range append(lens, 0) {
			counts[length]++
		}
		tellers, _ := huff.Lengths(counts, 7)
		lay := func(many int) []byte {
			var r row
			r.head(true, 2)
			r.counts(len(lens), 1, many, tellers)
			for _, length := range append(lens, 0) {
				r.told(tellers, told{length, 0})
			}
			c := coderOf(lens, []int{0})
			r.steps(c, literals("\x00")...)
			r.end(c)
			return r.inBytes()
		}
		for enough := many; enough <= 19; enough++ {
			goes(t, "enough", lay(enough), []byte{0})
		}
		fails(t, "one less", lay(many-1), plenty, api.ErrCode)
	}
}

// fullOf tells lengths that are full, of the sign 0, the end and others: all of one length, or, if it is above 8, with those between as well.
func fullOf(length int) []int {
	lens := append(same(min(1<<length, 256)-1, min(length, 8)), same(257, 0)...)[:257]
	lens[256] = min(length, 8)
	if length > 8 {
		lens[255] = 9
		lens[256] = 9
	}
	for l := 9; l < length; l++ {
		lens[len(lens)-1] = l + 1
		lens = append(lens, l+1)
	}
	return lens
}

// P6.1: lengths of the signs that tell lengths of which there is no book, and such as have one, but not full.
func TestTellersThatMayNotBe(t *testing.T) {
	begun := func(tellers []int, bits ...int) []byte {
		var r row
		r.head(true, 2)
		r.counts(257, 1, 19, tellers)
		for len(r)%8 != 0 || len(bits) > 0 {
			bit := 0
			if len(bits) > 0 {
				bit, bits = bits[0], bits[1:]
			}
			r.number(bit, 1)
		}
		return r.inBytes()
	}
	with := func(n int, signs ...int) []int {
		l := same(19, 0)
		for _, sign := range signs {
			l[sign] = n
		}
		return l
	}
	fails(t, "too many", begun(with(1, 0, 1, 2)), plenty, api.ErrCode)
	fails(t, "too many of all", begun(same(19, 1)), plenty, api.ErrCode)
	fails(t, "wanting", begun(with(2, 0, 1, 2)), plenty, api.ErrCode)
	fails(t, "one of 2", begun(with(2, 5)), plenty, api.ErrCode)
	fails(t, "none, and a bit", begun(same(19, 0), 0), plenty, api.ErrCode)
	fails(t, "one alone, and another's bit", begun(with(1, 8), 1), plenty, api.ErrCode)
	fails(t, "one alone, and not enough bits", begun(with(1, 8), same(200, 0)...), plenty, api.ErrShort)
	// 258 lengths of 8: two too many
	fails(t, "one alone, 257 times", begun(with(1, 8), same(258, 0)...), plenty, api.ErrCode)
}

// ownLengths lays a block with lengths told as said, then steps and an end by lengths (of what the signs tell).
func ownLengths(signs, distances int, l []told, lens, apart []int, steps ...match.Step) []byte {
	var r row
	r.head(true, 2)
	r.counts(signs, distances, 19, evenTellers())
	r.told(evenTellers(), l...)
	if lens != nil {
		c := coderOf(lens, apart)
		r.steps(c, steps...)
		r.end(c)
	}
	return r.inBytes()
}

// zeros tells n lengths that are 0, by as few signs as may be.
func zeros(n int) []told {
	var l []told
	for n > 0 {
		switch {
		case n >= 11:
			l = append(l, told{18, min(n, 138) - 11})
			n -= min(n, 138)
		case n >= 3:
			l = append(l, told{17, n - 3})
			n = 0
		default:
			l = append(l, told{0, 0})
			n--
		}
	}
	return l
}

// P6.1: runs of all lengths: a sign behind each one tells whether it was that long.
func TestRuns(t *testing.T) {
	behind := func(x int, ahead ...told) {
		t.Helper()
		lens := same(257, 0)
		lens[x], lens[256] = 1, 1
		l := slices.Concat(ahead, []told{{1, 0}}, zeros(256-x-1), []told{{1, 0}, {0, 0}})
		steps := []match.Step{{Byte: byte(x)}, {Byte: byte(x)}}
		goes(t, "run", ownLengths(257, 1, l, lens, []int{0}, steps...), []byte{byte(x), byte(x)})
	}
	for more := range 4 {
		behind(1+3+more, told{0, 0}, told{16, more})
		behind(5+3+more, told{17, 2}, told{16, more})
		behind(4+3+more+3+more, told{17, 1}, told{16, more}, told{16, more})
	}
	for more := range 8 {
		behind(3+more, told{17, more})
	}
	for more := range 128 {
		behind(11+more, told{18, more})
	}
}

// P6.1: a length that is not 0, told again.
func TestLengthsAgain(t *testing.T) {
	for more := range 4 {
		ahead, rest := 4+more, 3-more // of 8 signs of 3 bits, with the end
		lens := slices.Concat(same(ahead, 3), same(256-ahead-rest, 0), same(rest+1, 3))
		l := slices.Concat([]told{{3, 0}, {16, more}}, zeros(256-ahead-rest), slices.Repeat([]told{{3, 0}}, rest+1), zeros(1))
		var all []match.Step
		var want []byte
		for sign, length := range lens[:256] {
			if length > 0 {
				all, want = append(all, match.Step{Byte: byte(sign)}), append(want, byte(sign))
			}
		}
		goes(t, "again", ownLengths(257, 1, l, lens, []int{0}, all...), want)
	}
}

// P6.1: one row: a run goes on from the signs to the distances.
func TestRunsAcrossTheSigns(t *testing.T) {
	lens := same(257, 0)
	lens['a'], lens[256] = 1, 1
	ahead := slices.Concat(zeros('a'), []told{{1, 0}}, zeros(256-'a'-1), []told{{1, 0}})
	// three zeros behind the end: all distances
	goes(t, "zeros", ownLengths(257, 3, append(slices.Clone(ahead), told{17, 0}), lens, same(3, 0), literals("aa")...), []byte("aa"))
	goes(t, "many zeros", ownLengths(257, 11, append(slices.Clone(ahead), told{18, 0}), lens, same(11, 0), literals("aa")...), []byte("aa"))

	// a 2, again 6 times: the end, a length, and four distances
	lens = append(same(256, 0), 2, 2)
	lens['a'], lens['b'] = 2, 2
	again := []told{{18, 'a' - 11}, {2, 0}, {2, 0}, {18, 127}, {18, 256 - 'b' - 1 - 138 - 11}, {2, 0}, {16, 2}}
	steps := append(literals("abab"), copied(3, 4), copied(3, 1))
	want, _ := match.Expand(steps, plenty)
	goes(t, "again", ownLengths(258, 4, again, lens, same(4, 2), steps...), want)

	// noughts told again are noughts
	lens = same(257, 0)
	lens['a'], lens[256] = 1, 1
	zeros := []told{{18, 'a' - 3 - 11}, {16, 0}, {1, 0}, {18, 127}, {18, 256 - 'a' - 1 - 138 - 11}, {1, 0}, {0, 0}, {16, 3}}
	goes(t, "noughts again", ownLengths(257, 7, zeros, lens, same(7, 0), literals("aa")...), []byte("aa"))
}

// P6.1: nothing is told again where nothing is ahead; more lengths than wanted are refused.
func TestRunsThatMayNotBe(t *testing.T) {
	lens := same(257, 0)
	lens['a'], lens[256] = 1, 1
	for more := range 4 {
		// As noughts they would do.
		l := slices.Concat([]told{{16, more}}, zeros('a'-3-more), []told{{1, 0}}, zeros(256-'a'-1), []told{{1, 0}, {0, 0}})
		fails(t, "none ahead", ownLengths(257, 1, l, lens, []int{0}), plenty, api.ErrCode)
		l[0] = told{17, more}
		goes(t, "noughts ahead", ownLengths(257, 1, l, lens, []int{0}), nil)
	}
	ahead := slices.Concat(zeros('a'), []told{{1, 0}}, zeros(256-'a'-1), []told{{1, 0}})
	for behind, most := range map[told]int{{16, 0}: 3, {16, 3}: 6, {17, 0}: 3, {17, 7}: 10, {18, 0}: 11, {18, 19}: 30} {
		for distances := 1; distances < most; distances++ {
			b := ownLengths(257, distances, append(slices.Clone(ahead), behind), nil, nil)
			fails(t, "more than wanted", b, plenty, api.ErrCode)
		}
	}
	b := ownLengths(257, 30, append(slices.Clone(ahead), told{18, 127}), nil, nil)
	fails(t, "many more than wanted", b, plenty, api.ErrCode)
	b = ownLengths(257, 1, []told{{1, 0}, {1, 0}, {18, 127}, {18, 127}}, nil, nil)
	fails(t, "more than wanted ahead of the end", b, plenty, api.ErrCode)
}

// P6.1: a block without an end, and lengths of which there is no book.
func TestLengthsThatMayNotBe(t *testing.T) {
	cases := []struct {
		name  string
		lens  map[int]int
		apart []int
		want  api.Errno
	}{
		{"may be", map[int]int{'a': 1, 256: 1}, []int{0}, api.OK},
		{"no end", map[int]int{'a': 1, 'b': 1}, []int{0}, api.ErrCode},
		{"no end, but another sign", map[int]int{'a': 1, 257: 1}, []int{0}, api.ErrCode},
		{"nothing", nil, []int{0}, api.ErrCode},
		{"the end alone", map[int]int{256: 1}, []int{0}, api.OK},
		{"the end alone, of 2", map[int]int{256: 2}, []int{0}, api.ErrCode},
		{"wanting", map[int]int{'a': 2, 256: 1}, []int{0}, api.ErrCode},
		{"too many", map[int]int{'a': 1, 'b': 1, 256: 1}, []int{0}, api.ErrCode},
		{"one distance", map[int]int{'a': 1, 256: 1}, []int{1}, api.OK},
		{"one distance among others", map[int]int{'a': 1, 256: 1}, []int{0, 0, 1, 0}, api.OK},
		{"one distance of 2", map[int]int{'a': 1, 256: 1}, []int{2}, api.ErrCode},
		{"distances wanting", map[int]int{'a': 1, 256: 1}, []int{1, 2}, api.ErrCode},
		{"too many distances", map[int]int{'a': 1, 256: 1}, []int{1, 1, 1}, api.ErrCode},
		{"30 distances of 5", map[int]int{'a': 1, 256: 1}, same(30, 5), api.ErrCode},
	}
	for _, c := range cases {
		lens := same(258, 0)
		for sign, length := range c.lens {
			lens[sign] = length
		}
		var r row
		r.dynamic(true, lens, c.apart)
		if c.want == api.OK {
			goes(t, c.name, r.inBytes(), nil)
			continue
		}
		fails(t, c.name, r.inBytes(), plenty, c.want)
	}
}

// P6.1: codes that are none's, of the end alone, and of distances that are one alone or none.
func TestCodesOfNone(t *testing.T) {
	lay := func(apart []int, codes ...string) []byte {
		lens := same(258, 0)
		lens['a'], lens[256], lens[257] = 1, 2, 2
		var r row
		r.head(true, 2)
		r.lengths(lens, apart)
		for _, code := range codes {
			r.code(code)
		}
		return r.inBytes()
	}
	const a, end, three = "0", "10", "11"
	goes(t, "no copy, no distances", lay([]int{0}, a, a, end), []byte("aa"))
	fails(t, "a copy, no distances", lay([]int{0}, a, three, "0", end), plenty, api.ErrCode)
	fails(t, "a copy, no distances", lay([]int{0}, a, three, "1", end), plenty, api.ErrCode)
	goes(t, "a copy, one distance", lay([]int{1}, a, three, "0", end), []byte("aaaa"))
	fails(t, "a copy, not that distance", lay([]int{1}, a, three, "1", end), plenty, api.ErrCode)
	goes(t, "a copy, another distance alone", lay([]int{0, 1}, a, a, three, "0", end), []byte("aaaaa"))

	lens := same(257, 0)
	lens[256] = 1
	var r row
	r.head(true, 2)
	r.lengths(lens, []int{0})
	r.code("1")
	fails(t, "not the end, which is alone", r.inBytes(), plenty, api.ErrCode)
}
