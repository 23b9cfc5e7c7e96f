package path_test

import (
	"math/rand"
	stdpath "path"
	"slices"
	"strings"
	"testing"

	"portolan/api"
	"portolan/path"
)

// P11.1: names, by hand.
func TestMayName(t *testing.T) {
	for _, s := range []string{
		"a", " ", "\n", "\xff", "\x01", "...", "....", ".a", "..a", "a.", "a..", ".wh", ".wha", "wh.", ".w.h.", ".Wh.a", "a.wh.", "a.wh.b", " .wh.a", "\\", ":", "*",
		strings.Repeat("a", 251), strings.Repeat(".", 251), strings.Repeat("\xff", 251), "日本語",
	} {
		if !path.MayName(s) {
			t.Errorf("%s may not be", short(s))
		}
	}
	for _, s := range []string{
		"", ".", "..", "/", "a/", "/a", "a/b", "\x00", "a\x00", "\x00a", ".wh.", ".wh.a", ".wh..", ".wh..wh..opq", ".wh..wh.toc", ".wh.\xff",
		strings.Repeat("a", 252), strings.Repeat("a", 255), strings.Repeat("a", 256), strings.Repeat("日", 84),
		".wh." + strings.Repeat("a", 247), strings.Repeat("a", 250) + "/", strings.Repeat("a", 250) + "\x00",
	} {
		if path.MayName(s) {
			t.Errorf("%s may be", short(s))
		}
	}
}

// P11.1: trees' paths, by hand.
func TestMay(t *testing.T) {
	longest := strings.Repeat("a", 251)
	for _, p := range []string{
		"", "a", "a/b", "a/b/c", "a/.wh", ".../....", " / ", "a/" + longest, longest + "/" + longest,
		strings.Repeat("a/", 253) + "a", pathOf(254, 4080), pathOf(17, 4080), pathOf(17, 4079),
	} {
		if !path.May(p) {
			t.Errorf("%s may not be", short(p))
		}
	}
	for _, p := range []string{
		"/", "//", "a/", "/a", "a//b", "a/./b", "a/..", ".", "..", "../a", "a/\x00/b", ".wh.a", ".wh.a/b", "a/.wh.b/c", "a/.wh..wh..opq", ".wh..wh.toc", "a/.wh.",
		longest + "a", "a/" + longest + "a/b",
		strings.Repeat("a/", 254) + "a", strings.Repeat("a/", 253), pathOf(254, 4081), pathOf(17, 4081), pathOf(17, 4096), pathOf(255, 4080),
	} {
		if path.May(p) {
			t.Errorf("%s may be", short(p))
		}
	}
}

// P11.2: raw paths, by hand.
func TestClean(t *testing.T) {
	longest := strings.Repeat("a", 255)
	deepest := strings.Repeat("a/", 254) + "a"
	for raw, want := range map[string]string{
		"": "", ".": "", "./": "", "./.": "", "././/./": "", "a": "a", "a/": "a", "a//": "a", "./a": "a", "a/.": "a", "./a//b/./c/": "a/b/c",
		"...": "...", "a/...": "a/...", "..a/b..": "..a/b..", " / ": " / ", ".wh..wh.toc": ".wh..wh.toc", "a/.wh..wh..opq/b": "a/.wh..wh..opq/b", "\xff": "\xff", "a\n": "a\n",
		longest: longest, "./" + longest + "/./" + longest + "//": longest + "/" + longest,
		deepest: deepest, "./" + strings.ReplaceAll(deepest, "/", "/.//"): deepest,
		pathOf(255, 4096): pathOf(255, 4096), pathOf(17, 4096): pathOf(17, 4096), strings.Repeat("./", 5000) + pathOf(255, 4096) + strings.Repeat("/", 5000): pathOf(255, 4096),
	} {
		if p, e := path.Clean(raw); p != want || e != api.OK {
			t.Errorf("Clean of %s: %s, %d; not %s", short(raw), short(p), e, short(want))
		}
		cleans(t, raw)
	}
	for want, l := range map[api.Errno][]string{
		api.ErrPath: {
			"/", "/a", "//", "/.", "/..", "..", "../", "../a", "a/..", "a/../b", "a//..", "./..", "\x00", "a\x00", "a/\x00/b", "\x00/..",
			longest + "a/..", longest + "a/\x00", "/" + longest + "a", deepest + "/a/..", deepest + "/a/\x00", pathOf(255, 4097) + "/..", pathOf(17, 4097) + "/./..",
		},
		api.ErrLong: {
			longest + "a", "./" + longest + "a/.", "a/" + longest + "a/b", deepest + "/a", deepest + "/././a/", pathOf(255, 4097), pathOf(17, 4097), pathOf(17, 4097) + "/", strings.Repeat("a", 100000), strings.Repeat("a/", 100000),
		},
	} {
		for _, raw := range l {
			if p, e := path.Clean(raw); p != "" || e != want {
				t.Errorf("Clean of %s: %s, %d; not %d", short(raw), short(p), e, want)
			}
			cleans(t, raw)
		}
	}
}

// P11.2: what is cleaned, against the library, which takes what goes up, and begins with a slash, too.
func TestCleanAsLibrary(t *testing.T) {
	everyRow([]string{"/", ".", "a", "b"}, 7, func(raw string) {
		p, e := path.Clean(raw)
		if strings.HasPrefix(raw, "/") || slices.Contains(strings.Split(raw, "/"), "..") {
			if p != "" || e != api.ErrPath {
				t.Errorf("Clean of %q: %q, %d", raw, p, e)
			}
			return
		}
		want := stdpath.Clean(raw)
		if want == "." {
			want = ""
		}
		if p != want || e != api.OK {
			t.Errorf("Clean of %q: %q, %d; not %q", raw, p, e, want)
		}
	})
}

// P11.3: parts, of any text, by hand.
func TestParts(t *testing.T) {
	for _, c := range []struct {
		p            string
		split        []string
		parent, base string
		above        []string
	}{
		{"", nil, "", "", nil},
		{"a", []string{"a"}, "", "a", nil},
		{"a/b", []string{"a", "b"}, "a", "b", []string{"a"}},
		{"a/b/c", []string{"a", "b", "c"}, "a/b", "c", []string{"a", "a/b"}},
		{"/", []string{"", ""}, "", "", []string{""}},
		{"//", []string{"", "", ""}, "/", "", []string{"", "/"}},
		{"/a", []string{"", "a"}, "", "a", []string{""}},
		{"a/", []string{"a", ""}, "a", "", []string{"a"}},
		{"a//b", []string{"a", "", "b"}, "a/", "b", []string{"a", "a/"}},
		{"./../\x00", []string{".", "..", "\x00"}, "./..", "\x00", []string{".", "./.."}},
		{"日/\xff/.wh.", []string{"日", "\xff", ".wh."}, "日/\xff", ".wh.", []string{"日", "日/\xff"}},
	} {
		if l := path.Split(c.p); !slices.Equal(l, c.split) {
			t.Errorf("Split of %q: %q", c.p, l)
		}
		if p := path.Parent(c.p); p != c.parent {
			t.Errorf("Parent of %q: %q", c.p, p)
		}
		if s := path.Base(c.p); s != c.base {
			t.Errorf("Base of %q: %q", c.p, s)
		}
		if l := path.Above(c.p); !slices.Equal(l, c.above) {
			t.Errorf("Above of %q: %q", c.p, l)
		}
	}
}

// P11.3: parts, of every short text and of long ones, against the plain reading.
func TestPartsOfAnyText(t *testing.T) {
	check := func(p string) {
		parts := plainParts(p)
		if p == "" {
			parts = nil
		}
		var above []string
		for k := range max(0, len(parts)-1) {
			above = append(above, plainJoin(parts[:k+1]))
		}
		parent, base := "", ""
		if len(parts) > 0 {
			parent, base = plainJoin(parts[:len(parts)-1]), parts[len(parts)-1]
		}
		if l := path.Split(p); !slices.Equal(l, parts) {
			t.Errorf("Split of %s: %q", short(p), l)
		}
		if l := path.Above(p); !slices.Equal(l, above) {
			t.Errorf("Above of %s: %q", short(p), l)
		}
		if path.Parent(p) != parent || path.Base(p) != base {
			t.Errorf("Parent and Base of %s: %s, %s", short(p), short(path.Parent(p)), short(path.Base(p)))
		}
	}
	everyRow([]string{"/", ".", "a", "\x00", "\xe6"}, 6, check)
	for _, p := range []string{strings.Repeat("/", 1000), strings.Repeat("a/", 1000), strings.Repeat("a", 5000), pathOf(300, 6000)} {
		check(p)
	}
}

// P11.3: names joined, with empty ones and others that are no names.
func TestJoin(t *testing.T) {
	for _, c := range []struct {
		names []string
		want  string
	}{
		{nil, ""},
		{[]string{""}, ""},
		{[]string{"", "", ""}, ""},
		{[]string{"a"}, "a"},
		{[]string{"a", "b", "c"}, "a/b/c"},
		{[]string{"", "a", "", "", "b", ""}, "a/b"},
		{[]string{"a/b", "c/d"}, "a/b/c/d"},
		{[]string{"/", "a"}, "//a"},
		{[]string{"a/", "/b"}, "a///b"},
		{[]string{".", "..", "\x00"}, "./../\x00"},
		{slices.Repeat([]string{"a"}, 1000), strings.Repeat("a/", 999) + "a"},
	} {
		handed := slices.Clone(c.names)
		if p := path.Join(handed...); p != c.want {
			t.Errorf("Join of %q: %q", c.names, p)
		}
		if !slices.Equal(handed, c.names) {
			t.Errorf("Join changed %q to %q", c.names, handed)
		}
	}
}

// P11.3: what is under what, by hand.
func TestUnder(t *testing.T) {
	for _, c := range [][2]string{
		{"", "a"}, {"", "a/b"}, {"", "/"}, {"", "\x00"}, {"a", "a/b"}, {"a", "a/b/c"}, {"a/b", "a/b/c"}, {"a", "a/"}, {"a", "a//"}, {"a/", "a//b"}, {"/", "//"}, {"/a", "/a/b"}, {".", "./."},
	} {
		if !path.Under(c[0], c[1]) {
			t.Errorf("%q is not under %q", c[1], c[0])
		}
	}
	for _, c := range [][2]string{
		{"", ""}, {"a", ""}, {"a", "a"}, {"a", "ab"}, {"a", "ab/c"}, {"a", "b/a"}, {"a", "b/a/c"}, {"a/b", "a"}, {"a/b", "a/bc"}, {"a", "A/b"}, {"a", "a\x00/b"}, {"a/", "a/b"}, {"a/", "a/"}, {"/", "/"}, {"/", "/a"}, {"a", "/a/b"}, {"ab", "a/b"},
	} {
		if path.Under(c[0], c[1]) {
			t.Errorf("%q is under %q", c[1], c[0])
		}
	}
}

// P11.3: of every two short texts, one is under the other just if a slash parts it so.
func TestUnderOfAnyTexts(t *testing.T) {
	var all []string
	everyRow([]string{"/", "a", "b"}, 4, func(s string) { all = append(all, s) })
	for _, dir := range all {
		for _, p := range all {
			want := p != "" && dir == "" || slices.Contains(path.Above(p), dir)
			if path.Under(dir, p) != want {
				t.Errorf("%q under %q: not %v", p, dir, want)
			}
		}
	}
}

// P11.1, P11.2, P11.4: rows of pieces that names are made of, each of the short ones, against the plain reading.
func TestEveryShortRow(t *testing.T) {
	everyRow([]string{"/", ".", "wh", ".wh.", ".opq", "toc", "a", "\x00"}, 5, func(s string) { same(t, s) })
	everyRow([]string{".wh.", ".wh..wh..opq", ".wh..wh.toc", "/", "a", "..", "."}, 5, func(s string) { same(t, s) })
}

// P11.1, P11.2, P11.4: paths of any kind of names, many near the limits, against the plain reading.
func TestAnyPaths(t *testing.T) {
	random := rand.New(rand.NewSource(111))
	for range 20000 {
		same(t, anyPath(random))
	}
	for _, names := range []int{1, 2, 17, 18, 100, 253, 254, 255, 256} {
		for _, size := range []int{510, 511, 512, 4075, 4076, 4079, 4080, 4081, 4083, 4084, 4085, 4092, 4093, 4094, 4095, 4096, 4097} {
			if size < 2*names {
				continue
			}
			p := pathOf(names, size)
			for _, last := range []string{"", "/.wh.a", "/.wh..wh..opq", "/.wh..wh.toc", "/..", "/.", "/a"} {
				same(t, p+last)
				same(t, "./"+p+last)
			}
			same(t, path.Parent(p)+"/.wh."+path.Base(p))
		}
	}
}
