package inflate_test

import (
	"bytes"
	"math"
	"slices"
	"testing"

	"portolan/api"
	"portolan/inflate"
	"portolan/match"
)

// P6.1: the chapter's examples.
func TestExamples(t *testing.T) {
	cases := []struct {
		b    []byte
		out  string
		used int
	}{
		{[]byte{3, 0}, "", 2},
		{[]byte{1, 2, 0, 0xfd, 0xff, 'a', 'b', 'c'}, "ab", 7},
		{[]byte{0x4b, 4, 0}, "a", 3},
	}
	for _, c := range cases {
		out, used, e := inflate.All(c.b, plenty)
		if string(out) != c.out || used != c.used || e != api.OK {
			t.Errorf("% x: %q, %d, %d", c.b, out, used, e)
		}
	}
}

// P6.1, P6.2: a cap below 0 is refused, ahead of whatever the bytes are.
func TestCapBelow0(t *testing.T) {
	for _, b := range [][]byte{nil, {}, {3, 0}, {7}, {0x4b, 4, 0}} {
		for _, most := range []int{-1, -2, math.MinInt} {
			fails(t, "below 0", b, most, api.ErrArg)
		}
	}
}

// P6.1: no bytes are no stream.
func TestNoBytes(t *testing.T) {
	fails(t, "nil", nil, plenty, api.ErrShort)
	fails(t, "empty", []byte{}, 0, api.ErrShort)
}

// P6.1: kind 3, in the first block and behind others, the last one or not.
func TestKind3(t *testing.T) {
	for _, last := range []bool{false, true} {
		var first, behind, noEnd row
		first.head(last, 3)
		fails(t, "first", first.inBytes(), plenty, api.ErrCode)
		behind.fixed(false, literals("ab")...)
		behind.head(last, 3)
		fails(t, "behind", behind.inBytes(), plenty, api.ErrCode)
		noEnd.stored(false, []byte("ab"))
		fails(t, "nothing behind", noEnd.inBytes(), plenty, api.ErrShort)
	}
}

// P6.1: stored blocks, the greatest too, one behind the other, and behind any number of bits.
func TestStored(t *testing.T) {
	for _, n := range []int{0, 1, 2, 255, 256, 1022, 1023, 1024, 1025, 5000, 32768, 65534, 65535} {
		var one, two row
		one.stored(true, someBytes(n))
		goes(t, "one", one.inBytes(), someBytes(n))
		two.stored(false, someBytes(n))
		two.stored(true, someBytes(n + 1)[1:])
		goes(t, "two", two.inBytes(), slices.Concat(someBytes(n), someBytes(n + 1)[1:]))
	}
	for n := range 20 {
		var r row
		text := bytes.Repeat([]byte{200}, n)
		r.fixed(false, literals(string(text))...)
		r.stored(true, []byte("behind"))
		goes(t, "behind bits", r.inBytes(), append(text, "behind"...))
	}
}

// P6.1: the bits that are passed over ahead of a stored block may be any; the number told again has to have all bits turned.
func TestStoredHeads(t *testing.T) {
	for filler := range 32 {
		b := []byte{byte(1 | filler<<3), 2, 0, 0xfd, 0xff, 'a', 'b'}
		goes(t, "filled up", b, []byte("ab"))
	}
	for k := range 16 {
		var r row
		r.stored(true, []byte("ab"))
		b := r.inBytes()
		b[3+k/8] ^= 1 << (k % 8)
		fails(t, "one bit not turned", b, plenty, api.ErrCode)
		fails(t, "and no bytes behind", b[:5], plenty, api.ErrCode)
	}
	fails(t, "not turned", []byte{1, 2, 0, 2, 0, 'a', 'b'}, plenty, api.ErrCode)
	fails(t, "the end ahead of its last byte", []byte{1, 2, 0, 0xff}, plenty, api.ErrShort)
}

// P6.1: each byte in a fixed block, and each of the lengths and distances.
func TestFixed(t *testing.T) {
	var all []byte
	for x := range 256 {
		all = append(all, byte(x))
	}
	var r row
	r.fixed(true, literals(string(all))...)
	goes(t, "all bytes", r.inBytes(), all)

	steps := literals("abcdefg")
	for long := 3; long <= 258; long++ {
		steps = append(steps, copied(long, 1+long%7), match.Step{Byte: byte(long)})
	}
	want, _ := match.Expand(steps, plenty)
	r = nil
	r.fixed(true, steps...)
	goes(t, "all lengths", r.inBytes(), want)

	steps = literals(string(someBytes(32768)))
	for _, far := range fars {
		for n := far[0]; n < far[0]+1<<far[1]; n += 1 + 1<<far[1]/5 {
			steps = append(steps, copied(5, n))
		}
		steps = append(steps, copied(4, far[0]+1<<far[1]-1))
	}
	want, _ = match.Expand(steps, plenty)
	r = nil
	r.fixed(true, steps...)
	goes(t, "all distances", r.inBytes(), want)
}

// P6.1: 258 has a sign of its own, and is told by the one ahead of it, too.
func TestLongestByTheSignAhead(t *testing.T) {
	c := fixedCoder()
	var r row
	r.head(true, 1)
	r.steps(c, literals("a")...)
	r.code(c.signs[284])
	r.number(31, 5)
	r.far(c, 1)
	r.end(c)
	goes(t, "258", r.inBytes(), bytes.Repeat([]byte{'a'}, 259))
}

// P6.1: a distance leads back to the first byte, in whatever block it went out, and not ahead of it.
func TestDistancesAheadOfTheBeginning(t *testing.T) {
	blocks := map[string]func(r *row){
		"none":   func(r *row) {},
		"fixed":  func(r *row) { r.fixed(false, literals("abcdef")...) },
		"stored": func(r *row) { r.stored(false, []byte("abcdef")) },
		"both":   func(r *row) { r.stored(false, []byte("abc")); r.fixed(false, literals("def")...) },
	}
	for name, lay := range blocks {
		for far := 1; far < 12; far++ {
			for _, own := range []string{"", "gh"} {
				var r row
				lay(&r)
				steps := append(literals(own), copied(3, far))
				r.fixed(true, steps...)
				out := own
				if name != "none" {
					out = "abcdef" + own
				}
				if far > len(out) {
					fails(t, name, r.inBytes(), plenty, api.ErrCode)
					continue
				}
				want, _ := match.Expand(append(literals(out), copied(3, far)), plenty)
				goes(t, name, r.inBytes(), want)
			}
		}
	}
	var r row
	r.fixed(true, append(literals(string(someBytes(32767))), copied(3, 32768))...)
	fails(t, "one too far", r.inBytes(), plenty, api.ErrCode)
}

// signs lays a block of fixed codes that begins with a, and goes on with signs that tell no step.
func signs(lay func(r *row, signs, distances []string)) []byte {
	c := fixedCoder()
	var r row
	r.head(true, 1)
	r.steps(c, literals("aaaaa")...)
	lay(&r, c.signs, c.distances)
	return r.inBytes()
}

// P6.1: signs that fixed codes have, but that tell nothing: told when they are read, so nothing behind them is asked for.
func TestSignsWithoutMeaning(t *testing.T) {
	for _, sign := range []int{286, 287} {
		b := signs(func(r *row, signs, _ []string) { r.code(signs[sign]) })
		fails(t, "length", b, plenty, api.ErrCode)
	}
	for _, sign := range []int{30, 31} {
		b := signs(func(r *row, signs, distances []string) {
			r.code(signs[257])
			r.code(distances[sign])
		})
		fails(t, "distance", b, plenty, api.ErrCode)
		fails(t, "distance, ahead of the cap", b, 5, api.ErrCode)
	}
}

// P6.1: wherever a stream ends ahead of its end, bits or bytes are wanting.
func TestShort(t *testing.T) {
	var r row
	r.stored(false, []byte("stored"))
	r.fixed(false, append(literals("fixed"), copied(258, 1), copied(200, 7), copied(3, 11))...)
	lens, apart := longLengths()
	r.dynamic(true, lens, apart, append(literals("dynamic"), copied(40, 250))...)
	b := r.inBytes()
	out, used, e := inflate.All(b, plenty)
	if e != api.OK || used != len(b) || len(out) == 0 {
		t.Fatal(used, e)
	}
	for n := range b {
		fails(t, "cut", b[:n], plenty, api.ErrShort)
	}
}

// longLengths are full, with a length for each sign and distance.
func longLengths() (signs, distances []int) {
	// 226 of 8 and 60 of 9, 2 of 4 and 28 of 5
	return append(same(226, 8), same(60, 9)...), append(same(2, 4), same(28, 5)...)
}

// P6.1: what would go out above the cap is told when it would.
func TestCap(t *testing.T) {
	var stored row
	stored.stored(true, []byte("abcdef"))
	b := stored.inBytes()
	for most := range 10 {
		for there := range 7 {
			name, cut := "stored", b[:5+there]
			switch {
			case there > most:
				fails(t, name, cut, most, api.ErrCap)
			case there < 6:
				fails(t, name, cut, most, api.ErrShort)
			default:
				if out, used, e := inflate.All(cut, most); string(out) != "abcdef" || used != len(b) || e != api.OK {
					t.Errorf("%s by %d: %q, %d, %d", name, most, out, used, e)
				}
			}
		}
	}
	symbol := signs(func(*row, []string, []string) {})
	fails(t, "a symbol, as soon as it is read", symbol, 4, api.ErrCap)
	fails(t, "a symbol, ahead of what is wrong behind it", signs(func(r *row, signs, _ []string) {
		r.code(signs['b'])
		r.code(signs[287])
	}), 5, api.ErrCap)
	fails(t, "none left", []byte{0x4b, 4, 0}, 0, api.ErrCap)
	goes(t, "nothing by no bytes", []byte{3, 0}, nil)
	if out, used, e := inflate.All([]byte{3, 0}, 0); len(out) != 0 || used != 2 || e != api.OK {
		t.Errorf("nothing by no bytes: %d, %d, %d", len(out), used, e)
	}
}

// P6.1: a copy above the cap is told behind its distance was looked at, and just then.
func TestCapOfCopies(t *testing.T) {
	c := fixedCoder()
	laid := func(long, far int) []byte {
		return signs(func(r *row, _, _ []string) {
			r.long(c, long)
			r.far(c, far)
		})
	}
	for _, long := range []int{3, 10, 258} {
		for most := 5; most < 5+long; most++ {
			fails(t, "copy", laid(long, 5), most, api.ErrCap)
			fails(t, "too far a copy", laid(long, 6), most, api.ErrCode)
		}
		b := append(laid(long, 5), 0, 0) // and the end
		if out, _, e := inflate.All(b, 5+long); len(out) != 5+long || e != api.OK {
			t.Errorf("a copy of %d that is not above the cap: %d, %d", long, len(out), e)
		}
	}
	fails(t, "by 0 left", laid(3, 1), 5, api.ErrCap)
	short := laid(3, 24577)
	fails(t, "its distance's bits are wanting", short[:len(short)-1], 5, api.ErrShort)

	var r row
	r.head(true, 1)
	r.steps(c, literals("\xff\xff\xff\xff\xff\xff")...)
	r.code(c.signs[257])
	if len(r)%8 != 0 {
		t.Fatal("there are bits behind the sign")
	}
	fails(t, "its distance is wanting", r.inBytes(), 6, api.ErrShort)
}

// P6.1: the greatest caps are caps like others.
func TestGreatCaps(t *testing.T) {
	var r row
	r.stored(false, []byte("abc"))
	r.fixed(true, append(literals("d"), copied(258, 4))...)
	for _, most := range []int{262, 263, 1 << 31, 1 << 62, math.MaxInt - 1, math.MaxInt} {
		if out, used, e := inflate.All(r.inBytes(), most); len(out) != 262 || used != len(r.inBytes()) || e != api.OK {
			t.Errorf("%d: %d, %d, %d", most, len(out), used, e)
		}
	}
}

// P6.1: used counts each byte that has a bit of the stream, wherever in it the last block ends.
func TestUsed(t *testing.T) {
	for n := range 40 {
		var r row
		r.fixed(true, literals(string(bytes.Repeat([]byte{250}, n)))...)
		b := append(r.inBytes(), "more"...)
		out, used, e := inflate.All(b, plenty)
		if want := (3 + 9*n + 7 + 7) / 8; used != want || len(out) != n || e != api.OK {
			t.Errorf("%d: %d, not %d; %d, %d", n, used, want, len(out), e)
		}
	}
}

// P6.1 (R3): the bytes are only read, and not kept; each answer is its own.
func TestKeepsNothing(t *testing.T) {
	var r row
	r.stored(false, []byte("abc"))
	r.fixed(true, literals("d")...)
	b := r.inBytes()
	was := bytes.Clone(b)
	out, _, _ := inflate.All(b, plenty)
	again, _, _ := inflate.All(b, plenty)
	clear(out[:cap(out)])
	if !bytes.Equal(b, was) || string(again) != "abcd" {
		t.Error("changed")
	}
	clear(b)
	if string(again) != "abcd" {
		t.Error("kept")
	}
}

// P6.2: kinds, the last one's mark, and what goes out of each.
func TestBlocks(t *testing.T) {
	lens, apart := longLengths()
	var r row
	r.stored(false, []byte("abc"))
	r.stored(false, nil)
	r.fixed(false)
	r.fixed(false, append(literals("de"), copied(5, 5))...)
	r.dynamic(false, lens, apart, literals("f")...)
	r.dynamic(true, lens, apart)
	want := []inflate.Block{
		{Kind: 0, From: 0, To: 3}, {Kind: 0, From: 3, To: 3}, {Kind: 1, From: 3, To: 3},
		{Kind: 1, From: 3, To: 10}, {Kind: 2, From: 10, To: 11}, {Kind: 2, Last: true, From: 11, To: 11},
	}
	for _, behind := range []string{"", "anything"} {
		l, e := inflate.Blocks(append(r.inBytes(), behind...), 11)
		if !slices.Equal(l, want) || e != api.OK {
			t.Errorf("%v, %d", l, e)
		}
	}
	fails(t, "above the cap, in the last block but one", r.inBytes(), 10, api.ErrCap)
	b := r.inBytes()
	fails(t, "the last block cut", b[:len(b)-1], 11, api.ErrShort)
	goes(t, "blocks", b, []byte("abcdeabcdef"))
}

// P6.1, P6.2: very many short blocks end soon.
func TestManyBlocks(t *testing.T) {
	const many = 200000
	var r row
	for k := range many {
		r.fixed(k == many-1)
	}
	b := r.inBytes()
	goes(t, "many", b, nil)
	l, e := inflate.Blocks(b, 0)
	if len(l) != many || e != api.OK || !l[many-1].Last || l[many-2].Last {
		t.Errorf("%d, %d", len(l), e)
	}
}
