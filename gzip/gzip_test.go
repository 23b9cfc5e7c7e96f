package gzip_test

import (
	"bytes"
	"encoding/hex"
	"math"
	"math/rand"
	"slices"
	"strings"
	"testing"

	"portolan/api"
	"portolan/gzip"
)

func TestFlags(t *testing.T) {
	flags := []byte{gzip.Text, gzip.Summed, gzip.Extra, gzip.Named, gzip.Noted}
	if !slices.Equal(flags, []byte{1, 2, 4, 8, 16}) {
		t.Error(flags)
	}
}

// P8.1, P8.2: the chapter's examples, and a few more members, laid by hand.
func TestExamples(t *testing.T) {
	for _, c := range []struct {
		h            gzip.Head
		text, member string
	}{
		{gzip.Head{}, "", "1f8b0800 00000000 0000 0300 00000000 00000000"},
		{gzip.Head{}, "a", "1f8b0800 00000000 0000 4b0400 43beb7e8 01000000"},
		{gzip.Head{Flags: gzip.Text, Time: 0x01020304, Level: 5, System: 6}, "a", "1f8b0801 04030201 0506 4b0400 43beb7e8 01000000"},
		{gzip.Head{Flags: gzip.Extra, Extra: []byte{0, 1, 2}}, "a", "1f8b0804 00000000 0000 0300 000102 4b0400 43beb7e8 01000000"},
		{gzip.Head{Flags: gzip.Named | gzip.Noted, Name: "n", Note: "oo"}, "", "1f8b0818 00000000 0000 6e00 6f6f00 0300 00000000 00000000"},
		{gzip.Head{Flags: 28}, "", "1f8b081c 00000000 0000 0000 00 00 0300 00000000 00000000"},
	} {
		member := put(t, c.h, []byte(c.text))
		if want := strings.ReplaceAll(c.member, " ", ""); hex.EncodeToString(member) != want {
			t.Errorf("%+v: %x, not %s", c.h, member, want)
		}
		gets(t, "example", member, len(c.text), got{c.h, c.text, len(member), api.OK})
	}
	fails(t, "1f 8c", []byte{0x1f, 0x8c}, plenty, api.ErrForm)
}

// P8.1: a member of a head of any flags, and any bytes, is as the chapter lays it.
func TestPut(t *testing.T) {
	random := rand.New(rand.NewSource(81))
	for k := range 1000 {
		h := anyHead(random, byte(k%32))
		b := someBytes(random, random.Intn(1<<random.Intn(11)), 1+random.Intn(256))
		if member, want := put(t, h, b), plainMember(h, b); !bytes.Equal(member, want) {
			t.Errorf("%+v: %x, not %x", h, member, want)
		}
	}
}

// P8.1: what a head may be, up to the greatest parts, and what it may not.
func TestMay(t *testing.T) {
	long := strings.Repeat("\xff", 65535)
	for _, c := range []struct {
		what string
		h    gzip.Head
		may  bool
	}{
		{"empty", gzip.Head{}, true},
		{"numbers", gzip.Head{Time: math.MaxUint32, Level: 255, System: 255}, true},
		{"empty parts", gzip.Head{Flags: 31}, true},
		{"no Extra", gzip.Head{Extra: []byte{}}, true},
		{"longest Extra", gzip.Head{Flags: gzip.Extra, Extra: make([]byte, 65535)}, true},
		{"longest Name", gzip.Head{Flags: gzip.Named, Name: long}, true},
		{"longest Note", gzip.Head{Flags: gzip.Noted, Note: long}, true},
		{"longer Extra", gzip.Head{Flags: gzip.Extra, Extra: make([]byte, 65536)}, false},
		{"longer Name", gzip.Head{Flags: gzip.Named, Name: long + "x"}, false},
		{"longer Note", gzip.Head{Flags: gzip.Noted, Note: long + "x"}, false},
		{"Extra without its bit", gzip.Head{Flags: 31 - gzip.Extra, Extra: []byte{1}}, false},
		{"Name without its bit", gzip.Head{Flags: 31 - gzip.Named, Name: "n"}, false},
		{"Note without its bit", gzip.Head{Flags: 31 - gzip.Noted, Note: "n"}, false},
		{"0 at Name's beginning", gzip.Head{Flags: 31, Name: "\x00n"}, false},
		{"0 at Name's end", gzip.Head{Flags: 31, Name: "n\x00"}, false},
		{"0 alone as Name", gzip.Head{Flags: 31, Name: "\x00"}, false},
		{"0 in Note", gzip.Head{Flags: 31, Note: "n\x00n"}, false},
		{"0 alone as Note", gzip.Head{Flags: 31, Note: "\x00"}, false},
		{"0 in Name without its bit", gzip.Head{Name: "\x00"}, false},
	} {
		mayBe(t, c.what, c.h, c.may)
	}
	for flags := range 256 {
		mayBe(t, "flags", gzip.Head{Flags: byte(flags)}, flags < 32)
	}
}

// mayBe holds May and Put against whether a head may be.
func mayBe(t *testing.T, what string, h gzip.Head, may bool) {
	t.Helper()
	if gzip.May(h) != may {
		t.Errorf("%s: %v", what, !may)
	}
	for _, b := range [][]byte{nil, []byte("abc")} {
		member, e := gzip.Put(h, b)
		if may && (e != api.OK || !bytes.Equal(member, plainMember(h, b))) {
			t.Errorf("%s: put %d bytes, %d", what, len(member), e)
		}
		if !may && (e != api.ErrArg || len(member) != 0) {
			t.Errorf("%s: put %d bytes, %d", what, len(member), e)
		}
	}
}

// P8.1: the greatest size of all; of both errors the head's is told.
func TestPutLong(t *testing.T) {
	b := make([]byte, api.MaxBlob+1)
	for flags, want := range map[byte]api.Errno{0: api.ErrLong, 31: api.ErrLong, 32: api.ErrArg} {
		if member, e := gzip.Put(gzip.Head{Flags: flags}, b); len(member) != 0 || e != want {
			t.Errorf("flags %d, a byte too many: %d, %d", flags, len(member), e)
		}
	}
	b = b[1:]
	member := put(t, gzip.Head{}, b)
	if _, out, used, e := gzip.Get(member, len(b)); !bytes.Equal(out, b) || used != len(member) || e != api.OK {
		t.Errorf("%d bytes, %d used, %d", len(out), used, e)
	}
}

// P8.2: a cap below 0 is refused ahead of whatever the bytes are.
func TestCapBelow0(t *testing.T) {
	for _, b := range [][]byte{nil, {}, {1}, {31, 139}, put(t, gzip.Head{}, nil)} {
		for _, most := range []int{-1, -2, math.MinInt} {
			fails(t, "below 0", b, most, api.ErrArg)
		}
	}
}

// P8.2: each byte of the first three has to be the one, whatever stands behind; so far as there are any.
func TestFirstBytes(t *testing.T) {
	whole := put(t, gzip.Head{}, []byte("abc"))
	for k := range 3 {
		fails(t, "cut", whole[:k], plenty, api.ErrShort)
		for x := range 256 {
			b := bytes.Clone(whole)
			b[k] = byte(x)
			if b[k] == whole[k] {
				continue
			}
			fails(t, "another one", b, plenty, api.ErrForm)
			fails(t, "another one, and nothing behind", b[:k+1], plenty, api.ErrForm)
		}
	}
	fails(t, "nil", nil, plenty, api.ErrShort)
	fails(t, "nil by no bytes", nil, 0, api.ErrShort)
}

// P8.2: flags above 31 are told at their byte.
func TestGreatFlags(t *testing.T) {
	for flags := range 256 {
		b := []byte{31, 139, 8, byte(flags)}
		want := api.ErrForm
		if flags < 32 {
			want = api.ErrShort
		}
		fails(t, "flags alone", b, plenty, want)
		if flags > 31 {
			fails(t, "flags", append(b, put(t, gzip.Head{}, nil)[4:]...), plenty, want)
		}
	}
}

// P8.2: the first two bytes of a head's sum are asked for, and both of them, ahead of what is pressed.
func TestHeadSums(t *testing.T) {
	random := rand.New(rand.NewSource(82))
	for flags := range byte(32) {
		if flags&gzip.Summed == 0 {
			continue
		}
		h := anyHead(random, flags)
		head := plainHead(h)
		for _, at := range []int{len(head) - 2, len(head) - 1} {
			for k := range 8 {
				b := append(bytes.Clone(head), 7) // 7: no stream begins so
				fails(t, "as it is, then no stream", b, plenty, api.ErrCode)
				b[at] ^= 1 << k
				fails(t, "not so", b, plenty, api.ErrSum)
				fails(t, "not so, and nothing behind", b[:len(head)], plenty, api.ErrSum)
				fails(t, "not so, and a byte of it is wanting", b[:len(head)-1], plenty, api.ErrShort)
			}
		}
	}
	whole := put(t, gzip.Head{Flags: gzip.Summed}, nil)
	whole[3] = 0
	fails(t, "what would be a sum is pressed bytes", whole, plenty, plainGet(whole, plenty).e)
}

// P8.2: what inflate tells of what is pressed, by this cap.
func TestInflatesErrors(t *testing.T) {
	random := rand.New(rand.NewSource(83))
	for flags := range byte(32) {
		head := plainHead(anyHead(random, flags))
		with := func(b ...byte) []byte { return append(bytes.Clone(head), b...) }
		fails(t, "nothing", head, plenty, api.ErrShort)
		fails(t, "kind 3", with(7), plenty, api.ErrCode)
		fails(t, "no end", with(0x4b, 4), plenty, api.ErrShort)
		fails(t, "too far back", with(3, 2), plenty, api.ErrCode)
		fails(t, "above the cap", with(0x4b, 4, 0), 0, api.ErrCap)
		fails(t, "above the cap, ahead of what is wanting", with(1, 2, 0, 0xfd, 0xff, 'a', 'b'), 1, api.ErrCap)
	}
}

// P8.2: the eight bytes at the end; that they are there is asked ahead of what they are.
func TestSeals(t *testing.T) {
	whole := put(t, gzip.Head{}, []byte("abc"))
	last := len(whole) - 8
	for k := range 8 {
		fails(t, "wanting", whole[:last+k], plenty, api.ErrShort)
		fails(t, "wanting, and not so", append(bytes.Clone(whole[:last]), make([]byte, k)...), plenty, api.ErrShort)
		for x := 1; x < 256; x++ {
			b := bytes.Clone(whole)
			b[last+k] ^= byte(x)
			fails(t, "not so", b, plenty, api.ErrSum)
			fails(t, "not so, but the cap is told first", b, 2, api.ErrCap)
		}
	}
	stored := plainHead(gzip.Head{})
	stored = append(stored, 1, 3, 0, 0xfc, 0xff, 'a', 'b', 'c')
	stored = append(stored, plainSeal([]byte("abc"))...)
	gets(t, "pressed in another way", stored, 3, got{out: "abc", used: len(stored)})
	for k := range 3 {
		b := bytes.Clone(stored)
		b[15+k] ^= 32
		fails(t, "another byte", b, plenty, api.ErrSum)
	}
}

// P8.2: by each cap that is not below what comes out the same is told, by a lesser one ErrCap.
func TestCap(t *testing.T) {
	random := rand.New(rand.NewSource(84))
	for range 20 {
		h, b := anyHead(random, byte(random.Intn(32))), someBytes(random, random.Intn(60), 5)
		member := put(t, h, b)
		for most := range len(b) {
			fails(t, "lesser", member, most, api.ErrCap)
		}
		for _, most := range []int{len(b), len(b) + 1, plenty, api.MaxBlob + 1, math.MaxInt} {
			gets(t, "cap", member, most, got{h, string(b), len(member), api.OK})
		}
	}
}

// P8.2: a Name and a Note go up to their byte 0, however long they are.
func TestLongTexts(t *testing.T) {
	for _, many := range []int{65535, 65536, 200000} {
		for _, h := range []gzip.Head{
			{Flags: gzip.Named | gzip.Summed, Name: strings.Repeat("n", many)},
			{Flags: gzip.Noted, Note: strings.Repeat("\xfe", many)},
		} {
			b := plainMember(h, []byte("abc"))
			gets(t, "long text", b, 3, got{h, "abc", len(b), api.OK})
			fails(t, "its end is wanting", b[:10+many], 3, api.ErrShort)
		}
	}
}

// P8.2: members that are changed in any way, cut, or followed by anything, are read as the chapter says.
func TestChanged(t *testing.T) {
	random := rand.New(rand.NewSource(85))
	met := map[api.Errno]int{}
	for range 20000 {
		b := plainMember(anyHead(random, byte(random.Intn(32))), someBytes(random, random.Intn(30), 3))
		for range random.Intn(3) {
			b[random.Intn(len(b))] ^= 1 << random.Intn(8)
		}
		switch random.Intn(4) {
		case 0:
			b = b[:random.Intn(len(b))]
		case 1:
			b = append(b, someBytes(random, random.Intn(10), 256)...)
		}
		most := random.Intn(60)
		want := plainGet(b, most)
		met[want.e]++
		gets(t, "changed", b, most, want)
	}
	for _, e := range []api.Errno{api.OK, api.ErrShort, api.ErrForm, api.ErrSum, api.ErrCode, api.ErrCap} {
		if met[e] < 100 {
			t.Errorf("error %d: met %d times", e, met[e])
		}
	}
}

// P8.2, P8.3 (R3): what is handed in is only read, and not kept; what is told is new memory.
func TestKeepsNothing(t *testing.T) {
	h := gzip.Head{Flags: 31, Extra: []byte("extra"), Name: "name", Note: "note"}
	text := []byte("some text")
	b := put(t, h, text)
	if string(text) != "some text" || string(h.Extra) != "extra" {
		t.Error("changed")
	}
	was := bytes.Clone(b)
	read, out, _, _ := gzip.Get(b, plenty)
	_, other, _, _ := gzip.Get(b, plenty)
	all, _, _ := gzip.All(b, plenty)
	one, _, _ := gzip.At(b, 0, plenty)
	clear(other[:cap(other)])
	if !bytes.Equal(b, was) {
		t.Error("changed")
	}
	clear(b)
	clear(text)
	clear(h.Extra)
	if string(read.Extra) != "extra" || read.Name != "name" || read.Note != "note" {
		t.Errorf("kept: %v", read)
	}
	for _, told := range [][]byte{out, all, one} {
		if string(told) != "some text" {
			t.Errorf("kept: %q", told)
		}
	}
	clear(read.Extra[:cap(read.Extra)])
	if string(out) != "some text" {
		t.Error("two answers are one")
	}
}
