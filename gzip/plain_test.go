package gzip_test

import (
	"bytes"
	"encoding/binary"
	"fmt"
	"hash/crc32"
	"math/rand"
	"reflect"
	"slices"
	"strings"
	"testing"

	"portolan/api"
	"portolan/deflate"
	"portolan/gzip"
	"portolan/inflate"
)

const plenty = 1 << 20

// The chapter read in the plainest way, with the library's sums and numbers.

func plainMember(h gzip.Head, b []byte) []byte {
	pressed, _ := deflate.All(b)
	return slices.Concat(plainHead(h), pressed, plainSeal(b))
}

func plainHead(h gzip.Head) []byte {
	var out bytes.Buffer
	lay := func(part any) { binary.Write(&out, binary.LittleEndian, part) }
	lay([]byte{31, 139, 8, h.Flags})
	lay(h.Time)
	lay([]byte{h.Level, h.System})
	if h.Flags&4 > 0 {
		lay(uint16(len(h.Extra)))
		lay(h.Extra)
	}
	if h.Flags&8 > 0 {
		lay([]byte(h.Name + "\x00"))
	}
	if h.Flags&16 > 0 {
		lay([]byte(h.Note + "\x00"))
	}
	if h.Flags&2 > 0 {
		lay(uint16(crc32.ChecksumIEEE(out.Bytes())))
	}
	return out.Bytes()
}

func plainSeal(b []byte) []byte {
	seal := binary.LittleEndian.AppendUint32(nil, crc32.ChecksumIEEE(b))
	return binary.LittleEndian.AppendUint32(seal, uint32(len(b)))
}

// got is what Get answers.
type got struct {
	h    gzip.Head
	out  string
	used int
	e    api.Errno
}

// plainGet cuts off one part behind the other.
func plainGet(b []byte, most int) got {
	if most < 0 {
		return got{e: api.ErrArg}
	}
	for k, want := range []byte{31, 139, 8} {
		if k >= len(b) {
			return got{e: api.ErrShort}
		}
		if b[k] != want {
			return got{e: api.ErrForm}
		}
	}
	if len(b) > 3 && b[3] > 31 {
		return got{e: api.ErrForm}
	}
	if len(b) < 10 {
		return got{e: api.ErrShort}
	}
	h := gzip.Head{Flags: b[3], Time: binary.LittleEndian.Uint32(b[4:]), Level: b[8], System: b[9]}
	at := 10
	if h.Flags&4 > 0 {
		if len(b) < at+2 || len(b) < at+2+int(binary.LittleEndian.Uint16(b[at:])) {
			return got{e: api.ErrShort}
		}
		at += 2 + int(binary.LittleEndian.Uint16(b[at:]))
		h.Extra = b[12:at]
	}
	for _, part := range []struct {
		flag byte
		to   *string
	}{{8, &h.Name}, {16, &h.Note}} {
		if h.Flags&part.flag == 0 {
			continue
		}
		text, _, ends := strings.Cut(string(b[at:]), "\x00")
		if !ends {
			return got{e: api.ErrShort}
		}
		at += len(text) + 1
		*part.to = text
	}
	if h.Flags&2 > 0 {
		if len(b) < at+2 {
			return got{e: api.ErrShort}
		}
		if binary.LittleEndian.Uint16(b[at:]) != uint16(crc32.ChecksumIEEE(b[:at])) {
			return got{e: api.ErrSum}
		}
		at += 2
	}
	out, used, e := inflate.All(b[at:], most)
	if e != api.OK {
		return got{e: e}
	}
	at += used
	if len(b) < at+8 {
		return got{e: api.ErrShort}
	}
	if !bytes.Equal(b[at:at+8], plainSeal(out)) {
		return got{e: api.ErrSum}
	}
	return got{h, string(out), at + 8, api.OK}
}

// told is a head for whoever reads a failed test: its texts may be long.
func told(h gzip.Head) string {
	text := fmt.Sprintf("%+v", h)
	return text[:min(len(text), 150)]
}

// sameHead takes an Extra that is nil and one that is empty for one.
func sameHead(a, b gzip.Head) bool {
	same := bytes.Equal(a.Extra, b.Extra)
	a.Extra, b.Extra = nil, nil
	return same && reflect.DeepEqual(a, b)
}

// gets holds Get, and At, against what is wanted of them.
func gets(t *testing.T, what string, b []byte, most int, want got) {
	t.Helper()
	h, out, used, e := gzip.Get(b, most)
	if !sameHead(h, want.h) || string(out) != want.out || used != want.used || e != want.e {
		t.Errorf("%s: %s, %d bytes, %d used, %d; not %s, %d, %d, %d", what, told(h), len(out), used, e, told(want.h), len(want.out), want.used, want.e)
	}
	for _, at := range []int{0, 1, len(b)} {
		out, used, e = gzip.At(append(make([]byte, at), b...), at, most)
		if string(out) != want.out || used != want.used || e != want.e {
			t.Errorf("%s, at %d: %d bytes, %d used, %d", what, at, len(out), used, e)
		}
	}
}

// fails holds Get, At and All against an error that b's first member has.
func fails(t *testing.T, what string, b []byte, most int, e api.Errno) {
	t.Helper()
	gets(t, what, b, most, got{e: e})
	allFails(t, what, b, most, e)
}

func allFails(t *testing.T, what string, b []byte, most int, want api.Errno) {
	t.Helper()
	out, spans, e := gzip.All(b, most)
	if len(out) != 0 || len(spans) != 0 || e != want {
		t.Errorf("%s, all: %d bytes, %d spans, %d; not %d", what, len(out), len(spans), e, want)
	}
}

// put is what Put answers, where it has to take what it is given.
func put(t *testing.T, h gzip.Head, b []byte) []byte {
	t.Helper()
	member, e := gzip.Put(h, b)
	if e != api.OK {
		t.Fatalf("put %s: %d", told(h), e)
	}
	return member
}

func someBytes(random *rand.Rand, many, letters int) []byte {
	b := make([]byte, many)
	for k := range b {
		b[k] = byte(random.Intn(letters) * 37)
	}
	return b
}

func someText(random *rand.Rand, many int) string {
	b := make([]byte, many)
	for k := range b {
		b[k] = byte(1 + random.Intn(255))
	}
	return string(b)
}

// anyHead is a head that may be, of those flags.
func anyHead(random *rand.Rand, flags byte) gzip.Head {
	h := gzip.Head{Flags: flags, Level: byte(random.Intn(256)), System: byte(random.Intn(256)), Time: random.Uint32()}
	if flags&gzip.Extra > 0 {
		h.Extra = someBytes(random, random.Intn(20), 256)
	}
	if flags&gzip.Named > 0 {
		h.Name = someText(random, random.Intn(20))
	}
	if flags&gzip.Noted > 0 {
		h.Note = someText(random, random.Intn(20))
	}
	return h
}
