package pax_test

import (
	"bytes"
	"fmt"
	"math/rand"
	"slices"
	"strconv"
	"strings"
	"sync"
	"testing"

	"portolan/api"
	"portolan/pax"
)

// The chapter read in the plainest way: sizes are tried from 1 up, and a text that is cut short is filled up in every way that may help.

func plainMay(r pax.Record) bool {
	if len(r.Key) < 1 || len(r.Key) > 255 {
		return false
	}
	for k := range len(r.Key) {
		if r.Key[k] == 0 || r.Key[k] == '=' || r.Key[k] == '\n' {
			return false
		}
	}
	return true
}

// plainText is a record's text, nothing of one that may not be.
func plainText(r pax.Record) string {
	if !plainMay(r) {
		return ""
	}
	body := " " + r.Key + "=" + r.Value + "\n"
	for size := len(body); ; size++ {
		if text := fmt.Sprint(size) + body; len(text) == size {
			return text
		}
	}
}

func plainTexts(l []pax.Record) string {
	var all strings.Builder
	for _, r := range l {
		all.WriteString(plainText(r))
	}
	return all.String()
}

// sizes tells of each number up to MaxBlob whether some text has so many bytes, and whether a longer row of digits that begins with its is such a number, or itself.
type sizes struct{ is, begins []bool }

var plainSizes = sync.OnceValue(func() sizes {
	l := sizes{make([]bool, api.MaxBlob+1), make([]bool, api.MaxBlob+1)}
	for body := len(" k=\n"); body < api.MaxBlob; body++ {
		size := body + 1
		for size != body+len(strconv.Itoa(size)) {
			size++
		}
		for n := size; n > 0 && size <= api.MaxBlob; n /= 10 {
			l.is[n] = l.is[n] || n == size
			l.begins[n] = true
		}
	}
	return l
})

// plainSize is the number that s begins with, if it is written as it must be, and whether a blank stands behind it.
func plainSize(s string) (size int, ended bool) {
	digits, _, ended := strings.Cut(s, " ")
	size, err := strconv.Atoi(digits)
	if err != nil || size < 1 || size > api.MaxBlob || strconv.Itoa(size) != digits {
		return 0, ended
	}
	return size, ended
}

// plainFirst is the record whose text s begins with, and that text.
func plainFirst(s string) (pax.Record, string, bool) {
	size, _ := plainSize(s)
	if size == 0 || size > len(s) {
		return pax.Record{}, "", false
	}
	_, body, _ := strings.Cut(s[:size], " ")
	key, value, _ := strings.Cut(body, "=")
	r := pax.Record{Key: key, Value: strings.TrimSuffix(value, "\n")}
	text := plainText(r)
	return r, text, text != "" && text == s[:size]
}

// plainBegins tells whether s, of at least a byte, is the beginning of a text, but none.
func plainBegins(s string) bool {
	size, ended := plainSize(s)
	if size == 0 || !ended {
		return plainSizes().begins[size]
	}
	if !plainSizes().is[size] || len(s) >= size {
		return false
	}
	_, body, _ := strings.Cut(s, " ")
	// What is wanting beyond 600 bytes can only be the value's.
	missing := min(size-len(s), 600)
	for _, middle := range []string{"", "=", "k="} {
		if len(middle) < missing {
			key, value, parted := strings.Cut(body+middle+strings.Repeat("v", missing-1-len(middle))+"\n", "=")
			if parted && plainMay(pax.Record{Key: key}) && strings.HasSuffix(value, "\n") {
				return true
			}
		}
	}
	return false
}

func plainGet(s string) ([]pax.Record, api.Errno) {
	if len(s) > api.MaxBlob {
		return nil, api.ErrLong
	}
	var l []pax.Record
	for s != "" {
		r, text, is := plainFirst(s)
		if !is && plainBegins(s) {
			return nil, api.ErrShort
		}
		if !is {
			return nil, api.ErrForm
		}
		l = append(l, r)
		s = s[len(text):]
	}
	return l, api.OK
}

// short is a text for whoever reads a failed test: it may be long.
func short(s string) string { return fmt.Sprintf("%.80q (%d bytes)", s, len(s)) }

// gets holds Get against what is wanted of it, and what it is given against what that was.
func gets(t *testing.T, s string, want []pax.Record, wantError api.Errno) {
	t.Helper()
	b := []byte(s)
	l, e := pax.Get(b)
	if !slices.Equal(l, want) || e != wantError {
		t.Errorf("get of %s: %d records, %d; not %d, %d", short(s), len(l), e, len(want), wantError)
	}
	if string(b) != s {
		t.Errorf("get of %s: changed", short(s))
	}
}

// puts holds Put, and Size of each record, against the texts that are wanted.
func puts(t *testing.T, l []pax.Record, want string) {
	t.Helper()
	b, e := pax.Put(l...)
	if string(b) != want || e != api.OK {
		t.Errorf("put of %d records: %s, %d; not %s", len(l), short(string(b)), e, short(want))
	}
	all := 0
	for _, r := range l {
		all += pax.Size(r)
	}
	if all != len(want) {
		t.Errorf("sizes of %d records: %d in all, not %d", len(l), all, len(want))
	}
}

func refusesPut(t *testing.T, l []pax.Record, want api.Errno) {
	t.Helper()
	if b, e := pax.Put(l...); len(b) != 0 || e != want {
		t.Errorf("put of %d records: %d bytes, %d; not %d", len(l), len(b), e, want)
	}
}

func someText(random *rand.Rand, many int) string {
	b := make([]byte, many)
	for k := range b {
		b[k] = byte(random.Intn(256))
		if random.Intn(4) == 0 {
			b[k] = " =\n\x009k"[random.Intn(6)]
		}
	}
	return string(b)
}

// anyRecord is a record that may be, mostly a short one.
func anyRecord(random *rand.Rand) pax.Record {
	key := bytes.Map(func(r rune) rune {
		if r == 0 || r == '=' || r == '\n' {
			return 'k'
		}
		return r
	}, []byte(strings.ToValidUTF8(someText(random, 1+random.Intn(8)), "")))
	if random.Intn(10) == 0 {
		key = bytes.Repeat([]byte{byte('a' + random.Intn(26))}, 1+random.Intn(255))
	}
	if len(key) == 0 {
		key = []byte("\xff")
	}
	return pax.Record{Key: string(key), Value: someText(random, random.Intn(8+random.Intn(150)))}
}

func anyRecords(random *rand.Rand, most int) []pax.Record {
	l := make([]pax.Record, random.Intn(most+1))
	for k := range l {
		l[k] = anyRecord(random)
	}
	return l
}
