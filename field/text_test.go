package field_test

import (
	"math"
	"math/rand"
	"strings"
	"testing"

	"portolan/api"
	"portolan/field"
)

// textIs holds Text against what is wanted of it.
func textIs(t *testing.T, s string, many int, want string, wantError api.Errno) {
	t.Helper()
	if b, e := field.Text(s, many); string(b) != want || e != wantError {
		t.Errorf("%.50q in %d bytes: %.50q, %d; not %.50q, %d", s, many, b, e, want, wantError)
	}
}

// P9.2: texts shorter than their field, as long as it, and longer.
func TestText(t *testing.T) {
	textIs(t, "abc", 5, "abc\x00\x00", api.OK)
	textIs(t, "abc", 4, "abc\x00", api.OK)
	textIs(t, "abc", 3, "abc", api.OK)
	textIs(t, "abc", 2, "", api.ErrLong)
	textIs(t, "", 1, "\x00", api.OK)
	textIs(t, "a", 1, "a", api.OK)
	textIs(t, "ab", 1, "", api.ErrLong)
	textIs(t, "\xff\x01 é\n", 10, "\xff\x01 é\n\x00\x00\x00\x00", api.OK)
	for many := 1; many <= 512; many++ {
		long := strings.Repeat("\xfe", many)
		textIs(t, long, many, long, api.OK)
		textIs(t, long[1:], many, long[1:]+"\x00", api.OK)
		textIs(t, "", many, strings.Repeat("\x00", many), api.OK)
		textIs(t, long+"x", many, "", api.ErrLong)
	}
}

// P9.2: lengths that may not be, and texts that have a byte 0, are ErrArg, those that are too long, too.
func TestWrongTexts(t *testing.T) {
	for _, many := range []int{math.MinInt, -1, 0, 513, 514, math.MaxInt} {
		for _, s := range []string{"", "a", "\x00", strings.Repeat("a", 600)} {
			textIs(t, s, many, "", api.ErrArg)
		}
	}
	for _, many := range []int{1, 2, 3, 100, 512} {
		for _, s := range []string{"\x00", "a\x00", "\x00a", "a\x00b", strings.Repeat("a", 600) + "\x00"} {
			textIs(t, s, many, "", api.ErrArg)
		}
	}
}

// P9.2: the bytes ahead of the first 0, or all.
func TestString(t *testing.T) {
	for _, c := range []struct{ field, text string }{
		{"", ""}, {"\x00", ""}, {"a", "a"}, {"a\x00", "a"}, {"\x00a", ""}, {"a\x00b\x00", "a"}, {"a b\xff\n\x00\x00", "a b\xff\n"}, {" a ", " a "},
	} {
		if got := field.String([]byte(c.field)); got != c.text {
			t.Errorf("%q: %q, not %q", c.field, got, c.text)
		}
	}
	if got := field.String(nil); got != "" {
		t.Errorf("nothing: %q", got)
	}
	long := strings.Repeat("ab", 1<<16)
	if field.String([]byte(long)) != long || field.String([]byte(long+"\x00x")) != long {
		t.Error("a long text")
	}
}

// P9.4: String of Text is the text.
func TestTextsThereAndBack(t *testing.T) {
	random := rand.New(rand.NewSource(93))
	for range 5000 {
		s := make([]byte, random.Intn(513))
		for k := range s {
			s[k] = byte(1 + random.Intn(255))
		}
		many := max(1, len(s)+random.Intn(513-len(s)))
		b, e := field.Text(string(s), many)
		if e != api.OK || len(b) != many || field.String(b) != string(s) {
			t.Errorf("%q in %d bytes: %q, %d", s, many, b, e)
		}
	}
}

// P9.2 (R3): what is handed in is only read, and not kept.
func TestTextsKeepNothing(t *testing.T) {
	b := []byte("ab\x00c")
	text := field.String(b)
	if string(b) != "ab\x00c" {
		t.Error("changed")
	}
	clear(b)
	if text != "ab" {
		t.Error("kept")
	}
	one, _ := field.Text("abc", 4)
	clear(one[:cap(one)])
	textIs(t, "abc", 4, "abc\x00", api.OK)
}
