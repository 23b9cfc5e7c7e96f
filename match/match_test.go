package match_test

import (
	"bytes"
	"math"
	"math/rand"
	"slices"
	"testing"

	"portolan/api"
	"portolan/match"
)

// literals is a row of literals, one for each byte of a text.
func literals(text string) []match.Step {
	var l []match.Step
	for _, x := range []byte(text) {
		l = append(l, match.Step{Byte: x})
	}
	return l
}

// copied is a copy, as a row of one step.
func copied(long, far int) []match.Step { return []match.Step{{Long: long, Far: far}} }

// row puts steps together.
func row(parts ...[]match.Step) []match.Step { return slices.Concat(parts...) }

// anyRow tells n steps that may be, and their bytes, made as the chapter's words say.
func anyRow(random *rand.Rand, n int) ([]match.Step, []byte) {
	var l []match.Step
	var b []byte
	for range n {
		if len(b) == 0 || random.Intn(3) == 0 {
			x := byte(random.Intn(256))
			l = append(l, match.Step{Byte: x})
			b = append(b, x)
			continue
		}
		long := match.Least + random.Intn([]int{1, 10, match.Most - match.Least + 1}[random.Intn(3)])
		far := 1 + random.Intn(min(len(b), []int{1, 5, match.Farthest}[random.Intn(3)]))
		l = append(l, match.Step{Long: long, Far: far})
		from := len(b) - far
		for k := range long {
			b = append(b, b[from+k])
		}
	}
	return l, b
}

// P5.1: which rows may be; those that may not are refused by Expand, whatever the cap.
func TestMay(t *testing.T) {
	long := row(literals("abc"), slices.Repeat(copied(258, 3), 128)) // 33027 bytes
	cases := []struct {
		name string
		l    []match.Step
		want bool
	}{
		{"nothing", nil, true},
		{"empty", []match.Step{}, true},
		{"a literal", literals("a"), true},
		{"a literal of 0", literals("\x00"), true},
		{"a literal of 255", literals("\xff"), true},
		{"a literal whose Far is told", []match.Step{{Far: 7, Byte: 'a'}}, true},
		{"literals", literals("abcabc"), true},
		{"a copy", row(literals("a"), copied(3, 1)), true},
		{"a copy of 4", row(literals("a"), copied(4, 1)), true},
		{"a copy of 2", row(literals("abc"), copied(2, 1)), false},
		{"a copy of 1", row(literals("abc"), copied(1, 1)), false},
		{"a copy of -1", row(literals("abc"), copied(-1, 1)), false},
		{"a copy of -3", row(literals("abc"), copied(-3, 1)), false},
		{"a copy of the least", row(literals("abc"), copied(math.MinInt, 1)), false},
		{"a copy of 257", row(literals("a"), copied(257, 1)), true},
		{"a copy of 258", row(literals("a"), copied(258, 1)), true},
		{"a copy of 259", row(literals("a"), copied(259, 1)), false},
		{"a copy of the most", row(literals("a"), copied(math.MaxInt, 1)), false},
		{"from 0", row(literals("abc"), copied(3, 0)), false},
		{"from -1", row(literals("abc"), copied(3, -1)), false},
		{"from the least", row(literals("abc"), copied(3, math.MinInt)), false},
		{"from the beginning", row(literals("abc"), copied(3, 3)), true},
		{"from ahead of the beginning", row(literals("abc"), copied(3, 4)), false},
		{"from far ahead of the beginning", row(literals("abc"), copied(3, math.MaxInt)), false},
		{"a copy at the beginning", copied(3, 1), false},
		{"a copy at the beginning, literals behind", row(copied(3, 1), literals("abc")), false},
		{"from the beginning, behind a copy", row(literals("a"), copied(3, 1), copied(3, 4)), true},
		{"from ahead of it, behind a copy", row(literals("a"), copied(3, 1), copied(3, 5)), false},
		{"from 32767", row(long, copied(3, 32767)), true},
		{"from 32768", row(long, copied(3, 32768)), true},
		{"from 32769", row(long, copied(3, 32769)), false},
		{"a copy with a byte", row(literals("a"), []match.Step{{Long: 3, Far: 1, Byte: 1}}), false},
		{"a copy with a byte, others behind", row(literals("a"), []match.Step{{Long: 3, Far: 1, Byte: 255}}, copied(3, 1)), false},
		{"wrong at the end", row(long, copied(2, 1)), false},
	}
	for _, c := range cases {
		if got := match.May(c.l); got != c.want {
			t.Errorf("%s: %v", c.name, got)
		}
		want := api.OK
		if !c.want {
			want = api.ErrArg
		}
		if b, e := match.Expand(c.l, 1<<20); e != want || e != api.OK && len(b) != 0 {
			t.Errorf("%s: %d bytes, %d", c.name, len(b), e)
		}
		if b, e := match.Expand(c.l, 0); !c.want && (e != api.ErrArg || len(b) != 0) {
			t.Errorf("%s, cap 0: %d bytes, %d", c.name, len(b), e)
		}
	}
}

// P5.1: how many bytes, also of rows that may not be.
func TestSize(t *testing.T) {
	cases := []struct {
		l    []match.Step
		want int
	}{
		{nil, 0},
		{[]match.Step{}, 0},
		{literals("a"), 1},
		{row(literals("ab"), copied(258, 1), copied(3, 2)), 263},
		{copied(1, 1), 1},
		{copied(2, 0), 2},
		{copied(259, 99999), 259},
		{copied(-1, 1), 1},
		{copied(-300, 1), 1},
		{copied(math.MinInt, 1), 1},
		{copied(math.MaxInt, 1), math.MaxInt},
		{row(copied(math.MinInt, 0), literals("a"), copied(0, 5), copied(-2, -2)), 4},
		{row(copied(math.MaxInt, 0), literals("a")), math.MinInt},
		{row(copied(math.MaxInt, 0), copied(math.MaxInt, 0), copied(7, 0)), 5},
	}
	for _, c := range cases {
		if got := match.Size(c.l); got != c.want {
			t.Errorf("%v: %d, want %d", c.l, got, c.want)
		}
	}
}

// P5.1: bytes that are known: literals, copies of what was there, and of what they make.
func TestExpand(t *testing.T) {
	cases := []struct {
		l    []match.Step
		want string
	}{
		{nil, ""},
		{[]match.Step{}, ""},
		{literals("a"), "a"},
		{[]match.Step{{Far: 7, Byte: 'a'}}, "a"},
		{row(literals("a"), copied(4, 1)), "aaaaa"},
		{row(literals("ab"), copied(5, 2)), "abababa"},
		{row(literals("abc"), copied(3, 3), literals("d")), "abcabcd"},
		{row(literals("abc"), copied(3, 2), copied(4, 6)), "abcbcbabcb"},
		{row(literals("abcd"), copied(3, 4)), "abcdabc"},
	}
	for _, c := range cases {
		got, e := match.Expand(c.l, len(c.want))
		if string(got) != c.want || e != api.OK {
			t.Errorf("%v: %q, %d, want %q", c.l, got, e, c.want)
		}
	}
	random := rand.New(rand.NewSource(51))
	for range 300 {
		l, want := anyRow(random, random.Intn(400))
		if !match.May(l) || match.Size(l) != len(want) {
			t.Fatalf("%v: may it be: %v; %d bytes, want %d", l, match.May(l), match.Size(l), len(want))
		}
		if got, e := match.Expand(l, len(want)+random.Intn(3)); !bytes.Equal(got, want) || e != api.OK {
			t.Fatalf("%v: % x, %d, want % x", l, got, e, want)
		}
	}
}

// P5.1: the cap is how many bytes there may be, and none is below 0; ErrArg is ahead of ErrCap.
func TestExpandUnderCaps(t *testing.T) {
	l := row(literals("ab"), copied(10, 2), literals("c"))
	cases := []struct {
		name string
		l    []match.Step
		cap  int
		want api.Errno
	}{
		{"as many", l, 13, api.OK},
		{"one less", l, 12, api.ErrCap},
		{"one more", l, 14, api.OK},
		{"the most", l, math.MaxInt, api.OK},
		{"0", l, 0, api.ErrCap},
		{"-1", l, -1, api.ErrArg},
		{"the least", l, math.MinInt, api.ErrArg},
		{"0 of nothing", nil, 0, api.OK},
		{"the most of nothing", nil, math.MaxInt, api.OK},
		{"-1 of nothing", nil, -1, api.ErrArg},
		{"1 of a literal", literals("a"), 1, api.OK},
		{"0 of a literal", literals("a"), 0, api.ErrCap},
		{"0 of what may not be", copied(3, 1), 0, api.ErrArg},
		{"-1 of what may not be", copied(3, 1), -1, api.ErrArg},
		{"many bytes above the cap", row(literals("a"), slices.Repeat(copied(258, 1), 1<<16)), 1 << 20, api.ErrCap},
	}
	for _, c := range cases {
		b, e := match.Expand(c.l, c.cap)
		if e != c.want || e != api.OK && len(b) != 0 || e == api.OK && len(b) != match.Size(c.l) {
			t.Errorf("%s: %d bytes, %d, want %d", c.name, len(b), e, c.want)
		}
	}
}

// P5.1 (R3): steps are only read; what is answered is new each time.
func TestExpandKeepsNothing(t *testing.T) {
	l := row(literals("abc"), copied(9, 3))
	was := slices.Clone(l)
	first, _ := match.Expand(l, 100)
	match.May(l)
	match.Size(l)
	if !slices.Equal(l, was) {
		t.Fatal("the steps were changed")
	}
	clear(first)
	clear(first[:cap(first)])
	if again, e := match.Expand(l, 100); string(again) != "abcabcabcabc" || e != api.OK {
		t.Errorf("%q, %d", again, e)
	}
}
