package path_test

import (
	"math/rand"
	"slices"
	"strings"
	"testing"

	"portolan/api"
	"portolan/path"
)

const (
	mark  = ".wh..wh..opq"
	table = ".wh..wh.toc"
)

// P11.4: changesets' paths, by hand.
func TestClass(t *testing.T) {
	longest := strings.Repeat("a", 251)
	deepest := strings.Repeat("a/", 253) + "a"
	for p, want := range map[string]struct {
		class  int
		target string
	}{
		"a": {1, "a"}, "a/b": {1, "a/b"}, ".wh": {1, ".wh"}, "a/...": {1, "a/..."}, "wh..opq": {1, "wh..opq"}, longest: {1, longest}, deepest: {1, deepest}, pathOf(17, 4080): {1, pathOf(17, 4080)},
		".wh.a": {2, "a"}, "a/.wh.b": {2, "a/b"}, "a/.wh..x": {2, "a/.x"}, "a" + mark: {1, "a" + mark}, ".wh....": {2, "..."}, ".wh..wh": {2, ".wh"}, ".wh.wh.": {2, "wh."}, "a/.wh.\xff": {2, "a/\xff"},
		".wh." + longest: {2, longest}, deepest[:len(deepest)-1] + ".wh.a": {2, deepest}, path.Whiteout(pathOf(17, 4080)): {2, pathOf(17, 4080)},
		mark: {3, ""}, "a/" + mark: {3, "a"}, "a/b/" + mark: {3, "a/b"}, deepest + "/" + mark: {3, deepest}, pathOf(254, 4080) + "/" + mark: {3, pathOf(254, 4080)},
		table: {4, ""},
	} {
		if class, target := path.Class(p); class != want.class || target != want.target {
			t.Errorf("Class of %s: %d, %s; not %d, %s", short(p), class, short(target), want.class, short(want.target))
		}
	}
}

// P11.4: what is no changeset's path has class 0, and no target.
func TestNoClass(t *testing.T) {
	longest := strings.Repeat("a", 251)
	deepest := strings.Repeat("a/", 253) + "a"
	for _, p := range []string{
		"", "/", ".", "..", "a/", "/a", "a//b", "a/./b", "a/../b", "a\x00", "a/\x00",
		".wh.", ".wh..", ".wh...", ".wh..wh.", ".wh..wh.x", ".wh..wh..op", ".wh..wh..opqx", ".wh..wh.tocx", ".wh..wh.to", ".wh.\x00", ".wh.a\x00",
		"/.wh.a", "/.wh.", "a/.wh.", "a/.wh..", "a/.wh...", "a//.wh.b", "./.wh.a", "../.wh.a", ".wh.a/b", ".wh.a/.wh.b", "a/.wh.b/", ".wh.a/",
		"/" + mark, "//" + mark, "a//" + mark, mark + "/", mark + "/a", mark + "/" + mark, mark + mark, ".wh." + mark, "./" + mark, "a/../" + mark, ".wh.a/" + mark, "a/" + mark + "/.wh.b",
		"a/" + table, "/" + table, table + "/", table + "/a", table + "/" + table, table + "/" + mark, table + table, ".wh." + table, "./" + table,
		longest + "a", ".wh." + longest + "a", longest + "a/.wh.b", longest + "a/" + mark,
		deepest + "/a", deepest + "/.wh.a", deepest + "/a/" + mark, pathOf(17, 4081), pathOf(17, 4096), "a" + path.Whiteout(pathOf(17, 4080)), pathOf(17, 4081) + "/" + mark, pathOf(17, 4084) + "/" + mark,
		strings.Repeat("a", 100000), ".wh." + strings.Repeat("a", 100000), strings.Repeat("a/", 100000) + mark,
	} {
		if class, target := path.Class(p); class != 0 || target != "" {
			t.Errorf("Class of %s: %d, %s", short(p), class, short(target))
		}
	}
}

// P11.4: whiteouts and marks, by hand.
func TestWhiteoutAndOpaque(t *testing.T) {
	longest, deepest := strings.Repeat("a", 251), strings.Repeat("a/", 253)
	for p, want := range map[string][2]string{
		"": {"", mark}, "a": {".wh.a", "a/" + mark}, "a/b": {"a/.wh.b", "a/b/" + mark}, ".wh": {".wh..wh", ".wh/" + mark}, "...": {".wh....", ".../" + mark},
		longest: {".wh." + longest, longest + "/" + mark}, deepest + "b": {deepest + ".wh.b", deepest + "b/" + mark},
		"/": {}, "/a": {}, "a/": {}, "a//b": {}, ".": {}, "a/..": {}, "a\x00": {}, ".wh.a": {}, "a/.wh.b": {}, mark: {}, table: {}, "a/" + mark: {}, "a/.wh.": {}, longest + "a": {}, deepest + "a/b": {}, pathOf(17, 4081): {},
	} {
		if s := path.Whiteout(p); s != want[0] {
			t.Errorf("Whiteout of %s: %s", short(p), short(s))
		}
		if s := path.Opaque(p); s != want[1] {
			t.Errorf("Opaque of %s: %s", short(p), short(s))
		}
	}
}

// P11.4: the classes' numbers.
func TestClasses(t *testing.T) {
	if path.Plain != 1 || path.Gone != 2 || path.Mark != 3 || path.Table != 4 {
		t.Error(path.Plain, path.Gone, path.Mark, path.Table)
	}
}

// P11.5: from a tree's path to its whiteout and its mark, and back.
func TestThereAndBack(t *testing.T) {
	random := rand.New(rand.NewSource(112))
	met := 0
	for range 20000 {
		p := anyPath(random)
		if !path.May(p) {
			continue
		}
		met++
		if class, target := path.Class(path.Opaque(p)); class != path.Mark || target != p {
			t.Errorf("the mark of %s: %d, %s", short(p), class, short(target))
		}
		if class, target := path.Class(path.Whiteout(p)); p != "" && (class != path.Gone || target != p) {
			t.Errorf("the whiteout of %s: %d, %s", short(p), class, short(target))
		}
		if class, target := path.Class(p); p != "" && (class != path.Plain || target != p) {
			t.Errorf("%s: %d, %s", short(p), class, short(target))
		}
	}
	if met < 5000 {
		t.Error(met)
	}
}

// P11.5: a changeset's path but the table's is just one of a tree's path, a whiteout, a mark; and no other is one.
func TestJustOne(t *testing.T) {
	met := map[int]int{}
	everyRow([]string{".wh.", mark, table, "/", "a", "b", "."}, 5, func(p string) {
		class, target := path.Class(p)
		met[class]++
		var is []int
		for one, holds := range map[int]bool{
			path.Plain: p != "" && path.May(p), path.Gone: p != "" && path.Whiteout(target) == p, path.Mark: path.Opaque(target) == p, path.Table: p == table,
		} {
			if holds {
				is = append(is, one)
			}
		}
		if len(is) > 1 || len(is) == 1 && is[0] != class || len(is) == 0 && class != 0 {
			t.Errorf("%q: %d, %q; %v", p, class, target, is)
		}
	})
	if met[0] < 1000 || met[path.Plain] < 50 || met[path.Gone] < 50 || met[path.Mark] < 10 || met[path.Table] != 1 {
		t.Error(met)
	}
}

// P11.6: a path is its parent and base joined; above it stand its parents, from the highest one on, and it rises behind them.
func TestParents(t *testing.T) {
	random := rand.New(rand.NewSource(113))
	for range 10000 {
		p := anyPath(random)
		class, _ := path.Class(p)
		if class == 0 {
			continue
		}
		if path.Join(path.Parent(p), path.Base(p)) != p || path.Join(path.Split(p)...) != p {
			t.Errorf("%s is not joined again", short(p))
		}
		var parents []string
		for up := path.Parent(p); up != ""; up = path.Parent(up) {
			parents = append(parents, up)
		}
		slices.Reverse(parents)
		if l := path.Above(p); !slices.Equal(l, parents) {
			t.Errorf("Above of %s: %d, not %d", short(p), len(l), len(parents))
		}
		if !slices.IsSorted(append(parents, p)) {
			t.Errorf("%s does not rise behind its parents", short(p))
		}
		for _, dir := range append(path.Above(p), "") {
			if !path.Under(dir, p) {
				t.Errorf("%s is not under %s", short(p), short(dir))
			}
		}
	}
}

// P11.6: what is cleaned is clean; a changeset's path is.
func TestCleanIsClean(t *testing.T) {
	random := rand.New(rand.NewSource(114))
	met := map[api.Errno]int{}
	for range 20000 {
		raw := anyPath(random)
		p, e := path.Clean(raw)
		met[e]++
		if again, e2 := path.Clean(p); e == api.OK && (again != p || e2 != api.OK) {
			t.Errorf("%s, cleaned: %s; again: %s, %d", short(raw), short(p), short(again), e2)
		}
		if class, _ := path.Class(raw); class != 0 && p != raw {
			t.Errorf("%s, cleaned: %s", short(raw), short(p))
		}
	}
	if met[api.OK] < 5000 || met[api.ErrPath] < 100 || met[api.ErrLong] < 100 {
		t.Error(met)
	}
}

// P11.3, R3: what is answered is new: who changes it changes no other answer.
func TestNewMemory(t *testing.T) {
	for _, call := range []func(string) []string{path.Split, path.Above} {
		l := call("a/b/c")
		want := slices.Clone(l)
		for k := range l {
			l[k] = "x"
		}
		_ = append(l[:0], "y", "z")
		if again := call("a/b/c"); !slices.Equal(again, want) {
			t.Errorf("%q, not %q", again, want)
		}
	}
}
