package gzip_test

import (
	"bytes"
	"math"
	"math/rand"
	"slices"
	"testing"

	"portolan/api"
	"portolan/gzip"
)

// row is members one behind the other, and what they tell.
type row struct {
	b, out []byte
	spans  []gzip.Span
}

func (r *row) add(t *testing.T, h gzip.Head, b []byte) {
	from, first := len(r.b), len(r.out)
	r.b = append(r.b, put(t, h, b)...)
	r.out = append(r.out, b...)
	r.spans = append(r.spans, gzip.Span{From: from, To: len(r.b), First: first, Last: len(r.out)})
}

func anyRow(t *testing.T, random *rand.Rand, many, most int) row {
	var r row
	for range many {
		r.add(t, anyHead(random, byte(random.Intn(32))), someBytes(random, random.Intn(most+1), 1+random.Intn(256)))
	}
	return r
}

// goes holds All against a row.
func (r row) goes(t *testing.T, what string, most int) {
	t.Helper()
	out, spans, e := gzip.All(r.b, most)
	if !bytes.Equal(out, r.out) || !slices.Equal(spans, r.spans) || e != api.OK {
		t.Errorf("%s: %d bytes, not %d; %v, not %v; %d", what, len(out), len(r.out), spans, r.spans, e)
	}
}

// P8.3: members by hand, ones of no bytes among them, and their spans.
func TestAll(t *testing.T) {
	var r row
	for _, text := range []string{"", "a", "", "", "abcabcabcabc", ""} {
		r.add(t, gzip.Head{}, []byte(text))
		r.goes(t, "by hand", plenty)
	}
	want := []gzip.Span{{0, 20, 0, 0}, {20, 41, 0, 1}, {41, 61, 1, 1}, {61, 81, 1, 1}}
	if _, spans, _ := gzip.All(r.b, plenty); len(spans) != 6 || !slices.Equal(spans[:4], want) {
		t.Error(spans)
	}
}

// P8.3: no bytes at all are ErrShort.
func TestAllOfNothing(t *testing.T) {
	for _, none := range [][]byte{nil, {}} {
		for _, most := range []int{0, 1, math.MaxInt} {
			allFails(t, "nothing", none, most, api.ErrShort)
		}
		allFails(t, "nothing, by a cap below 0", none, -1, api.ErrArg)
	}
}

// P8.3: the cap is that of all bytes together.
func TestAllCaps(t *testing.T) {
	random := rand.New(rand.NewSource(86))
	for range 30 {
		r := anyRow(t, random, 1+random.Intn(5), 12)
		for most := range len(r.out) {
			allFails(t, "lesser", r.b, most, api.ErrCap)
		}
		for _, most := range []int{len(r.out), len(r.out) + 1, math.MaxInt} {
			r.goes(t, "cap", most)
		}
	}
}

// P8.3: the first error is told, whatever member has it, and with it nothing.
func TestAllErrors(t *testing.T) {
	random := rand.New(rand.NewSource(87))
	for range 30 {
		r := anyRow(t, random, 1+random.Intn(4), 30)
		whole := put(t, anyHead(random, byte(random.Intn(32))), []byte("abc"))
		behind := func(b ...byte) []byte { return append(bytes.Clone(r.b), b...) }
		for _, padding := range []int{1, 2, 512} {
			allFails(t, "bytes 0 behind", behind(make([]byte, padding)...), plenty, api.ErrForm)
		}
		for n := 1; n < len(whole); n++ {
			allFails(t, "a cut member behind", behind(whole[:n]...), plenty, api.ErrShort)
		}
		spoilt := bytes.Clone(whole)
		spoilt[len(spoilt)-8] ^= 1
		allFails(t, "a spoilt member behind", behind(spoilt...), plenty, api.ErrSum)
		allFails(t, "and another error behind that", behind(append(spoilt, 1)...), plenty, api.ErrSum)
		allFails(t, "above the cap ahead of it", behind(spoilt...), len(r.out)+2, api.ErrCap)
		allFails(t, "a spoilt member ahead", append(bytes.Clone(spoilt), r.b...), plenty, api.ErrSum)
		allFails(t, "another cap than theirs", behind(whole...), len(r.out)+2, api.ErrCap)
	}
}

// P8.3: very many members end soon.
func TestManyMembers(t *testing.T) {
	var r row
	for k := range 20000 {
		r.add(t, gzip.Head{}, bytes.Repeat([]byte{byte(k)}, k%3))
	}
	r.goes(t, "many", len(r.out))
}

// P8.3: places that there are, the one behind the last byte too, and others.
func TestAtPlaces(t *testing.T) {
	r := anyRow(t, rand.New(rand.NewSource(88)), 4, 10)
	for _, at := range []int{-1, -2, math.MinInt, len(r.b) + 1, math.MaxInt} {
		for _, most := range []int{-1, 0, plenty} {
			atFails(t, r.b, at, most, api.ErrArg)
			atFails(t, nil, at, most, api.ErrArg)
		}
	}
	atFails(t, r.b, len(r.b), plenty, api.ErrShort)
	atFails(t, nil, 0, plenty, api.ErrShort)
	for at := range len(r.b) + 1 {
		atFails(t, r.b, at, -1, api.ErrArg)
		want := plainGet(r.b[at:], plenty)
		if out, used, e := gzip.At(r.b, at, plenty); string(out) != want.out || used != want.used || e != want.e {
			t.Errorf("at %d: %d bytes, %d used, %d", at, len(out), used, e)
		}
	}
}

func atFails(t *testing.T, b []byte, at, most int, want api.Errno) {
	t.Helper()
	if out, used, e := gzip.At(b, at, most); len(out) != 0 || used != 0 || e != want {
		t.Errorf("at %d by %d: %d bytes, %d used, %d; not %d", at, most, len(out), used, e, want)
	}
}
