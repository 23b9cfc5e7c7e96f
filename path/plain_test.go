package path_test

import (
	"fmt"
	"math/rand"
	"slices"
	"strings"
	"testing"

	"portolan/api"
	"portolan/path"
)

// The chapter read in the plainest way: byte by byte, and name by name.

// plainParts are what stands between slashes, of the empty text one empty part.
func plainParts(p string) []string {
	var parts []string
	from := 0
	for k := range len(p) {
		if p[k] == '/' {
			parts = append(parts, p[from:k])
			from = k + 1
		}
	}
	return append(parts, p[from:])
}

func plainJoin(names []string) string {
	var all []byte
	for k, name := range names {
		if k > 0 {
			all = append(all, '/')
		}
		all = append(all, name...)
	}
	return string(all)
}

func plainIsName(s string) bool {
	for k := range len(s) {
		if s[k] == '/' || s[k] == 0 {
			return false
		}
	}
	return len(s) >= 1 && len(s) <= 255 && s != "." && s != ".."
}

func plainMayName(s string) bool {
	return plainIsName(s) && len(s) <= 251 && (len(s) < 4 || s[:4] != ".wh.")
}

func plainAreTrees(names []string) bool {
	for _, name := range names {
		if !plainMayName(name) {
			return false
		}
	}
	return true
}

func plainMay(p string) bool {
	if p == "" {
		return true
	}
	names := plainParts(p)
	return len(names) <= 254 && plainAreTrees(names) && len(p) <= 4080
}

func plainClean(raw string) (string, api.Errno) {
	var there []string
	for k, part := range plainParts(raw) {
		if part == ".." || part == "" && k == 0 && raw != "" || strings.IndexByte(part, 0) >= 0 {
			return "", api.ErrPath
		}
		if part != "" && part != "." {
			there = append(there, part)
		}
	}
	p := plainJoin(there)
	if slices.ContainsFunc(there, func(part string) bool { return len(part) > 255 }) || len(there) > 255 || len(p) > 4096 {
		return "", api.ErrLong
	}
	return p, api.OK
}

// plainClass asks for a changeset's path's names, one after the other, as the chapter's words do.
func plainClass(p string) (class int, target string) {
	names := plainParts(p)
	ahead, last := names[:len(names)-1], names[len(names)-1]
	if len(names) > 255 || len(p) > 4096 || !plainIsName(last) || !plainAreTrees(ahead) {
		return 0, ""
	}
	if last == ".wh..wh.toc" && len(names) == 1 {
		return 4, ""
	}
	switch {
	case plainMayName(last):
		class, target = 1, p
	case last == ".wh..wh..opq":
		class, target = 3, plainJoin(ahead)
	case len(last) > 4 && last[:4] == ".wh." && plainMayName(last[4:]):
		class, target = 2, plainJoin(slices.Concat(ahead, []string{last[4:]}))
	}
	if class == 0 || !plainMay(target) {
		return 0, ""
	}
	return class, target
}

func plainWhiteout(p string) string {
	if p == "" || !plainMay(p) {
		return ""
	}
	names := plainParts(p)
	names[len(names)-1] = ".wh." + names[len(names)-1]
	return plainJoin(names)
}

func plainOpaque(dir string) string {
	switch {
	case !plainMay(dir):
		return ""
	case dir == "":
		return ".wh..wh..opq"
	}
	return dir + "/.wh..wh..opq"
}

// short is a text for whoever reads a failed test: it may be long.
func short(s string) string { return fmt.Sprintf("%.60q (%d bytes)", s, len(s)) }

// same holds every call of one text but Split and its like against the plain reading.
func same(t *testing.T, s string) {
	t.Helper()
	if may := path.MayName(s); may != plainMayName(s) {
		t.Errorf("MayName of %s: %v", short(s), may)
	}
	if may := path.May(s); may != plainMay(s) {
		t.Errorf("May of %s: %v", short(s), may)
	}
	cleans(t, s)
	class, target := path.Class(s)
	if wantClass, want := plainClass(s); class != wantClass || target != want {
		t.Errorf("Class of %s: %d, %s; not %d, %s", short(s), class, short(target), wantClass, short(want))
	}
	if p, want := path.Whiteout(s), plainWhiteout(s); p != want {
		t.Errorf("Whiteout of %s: %s, not %s", short(s), short(p), short(want))
	}
	if p, want := path.Opaque(s), plainOpaque(s); p != want {
		t.Errorf("Opaque of %s: %s, not %s", short(s), short(p), short(want))
	}
}

func cleans(t *testing.T, raw string) {
	t.Helper()
	p, e := path.Clean(raw)
	if want, wantError := plainClean(raw); p != want || e != wantError {
		t.Errorf("Clean of %s: %s, %d; not %s, %d", short(raw), short(p), e, short(want), wantError)
	}
}

// everyRow calls with each row of at most so many of the pieces, put together.
func everyRow(pieces []string, many int, call func(s string)) {
	call("")
	rows := []string{""}
	for range many {
		var longer []string
		for _, row := range rows {
			for _, piece := range pieces {
				longer = append(longer, row+piece)
				call(row + piece)
			}
		}
		rows = longer
	}
}

// pathOf is a path of so many names that has so many bytes in all; the last name takes what the others leave.
func pathOf(names, size int) string {
	each := min(251, (size-names+1)/names)
	p := strings.Repeat(strings.Repeat("n", each)+"/", names-1)
	return p + strings.Repeat("l", size-len(p))
}

// anyName is mostly a tree's name, mostly a short one.
func anyName(random *rand.Rand) string {
	switch random.Intn(12) {
	case 0:
		return strings.Repeat("x", 240+random.Intn(20))
	case 1:
		return []string{".", "..", "...", ".wh", ".wh.", ".wh.a", ".wh..", ".wh...", ".wh....", ".wh..wh.", ".wh..wh..opq", ".wh..wh.toc", ".wh..wh..opq2", ".wh..wh.to", "wh.", ""}[random.Intn(16)]
	case 2:
		b := make([]byte, random.Intn(6))
		random.Read(b)
		return string(b)
	}
	return strings.Repeat("abc.w"[random.Intn(5):], 1+random.Intn(2))
}

// anyPath is mostly a path of few names, now and then one near the limits.
func anyPath(random *rand.Rand) string {
	names := make([]string, random.Intn(5))
	if random.Intn(10) == 0 {
		names = make([]string, 250+random.Intn(8))
	}
	for k := range names {
		names[k] = anyName(random)
		if len(names) > 100 && random.Intn(100) > 0 {
			names[k] = "abcdefgh"[:1+random.Intn(8)]
		}
	}
	return strings.Join(names, "/")
}
