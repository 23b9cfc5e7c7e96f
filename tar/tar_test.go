package tar_test

import (
	"archive/tar"
	"bytes"
	"fmt"
	"io"
	"math"
	"math/rand"
	"slices"
	"strings"
	"testing"

	"portolan/api"
	ours "portolan/tar"
)

// dirs is a path of so many names of a byte each.
func dirs(many int) string { return strings.Repeat("d/", many-1) + "d" }

func file(p string, data []byte) api.Member {
	return api.Member{Path: p, Node: api.Node{Kind: api.File, Data: data}}
}

func link(to string) api.Member {
	return api.Member{Path: "l", Node: api.Node{Kind: api.Symlink, Link: to}}
}

// attrs are attributes of these names.
func attrs(names ...string) []api.Attr {
	var l []api.Attr
	for k, name := range names {
		l = append(l, api.Attr{Name: name, Value: strings.Repeat("v", k)})
	}
	return l
}

// rising are so many names that rise.
func rising(many int) []string {
	var l []string
	for k := range many {
		l = append(l, fmt.Sprintf("n%02d", k))
	}
	return l
}

func withAttrs(l []api.Attr) api.Member {
	return api.Member{Path: "a", Node: api.Node{Kind: api.File, Attrs: l}}
}

func withMode(mode uint32) api.Member {
	return api.Member{Path: "a", Node: api.Node{Kind: api.Dir, Mode: mode}}
}

// may holds May against what is wanted, and Head and Put, which take just what may be.
func may(t *testing.T, m api.Member, want bool) {
	t.Helper()
	if ours.May(m) != want {
		t.Errorf("%s: %t", short(told(m)), !want)
	}
	h, e := ours.Head(m)
	b, putError := ours.Put(m)
	if want && (e != api.OK || putError != api.OK || string(b) != plainPut([]api.Member{m})) {
		t.Errorf("%s: %d, %d", short(told(m)), e, putError)
	}
	if !want && (e != api.ErrArg || putError != api.ErrArg || len(h) != 0 || len(b) != 0) {
		t.Errorf("%s: %d, %d", short(told(m)), e, putError)
	}
}

// P12.1: what a Member's path and kind may be.
func TestMayPathAndKind(t *testing.T) {
	for p, want := range map[string]bool{
		"a": true, "a/b": true, "a b": true, "\xff": true, "a\nb": true, "a=b": true, ".wh.a": true, "a/.wh.b": true, ".wh..wh..opq": true, "a/.wh..wh..opq": true, ".wh..wh.toc": true,
		dirs(254): true, dirs(254) + "/.wh..wh..opq": true, strings.Repeat("n", 251): true, ".wh." + strings.Repeat("n", 251): true,
		"": false, "/": false, ".": false, "..": false, "/a": false, "a/": false, "a//b": false, "./a": false, "a/..": false, "a\x00": false, ".wh.": false, ".wh..": false, ".wh.a/b": false, ".wh..wh.a": false, "a/.wh..wh.toc": false,
		dirs(255): false, dirs(254) + "/.wh.d": false, strings.Repeat("n", 252): false,
	} {
		for kind := api.Dir; kind <= api.Fifo; kind++ {
			m := api.Member{Path: p, Node: api.Node{Kind: kind}}
			if kind == api.Symlink {
				m.Node.Link = "x"
			}
			may(t, m, want)
		}
	}
	for _, kind := range []int{0, 5, 6, -1, 256, 257, '0', '5', 'x', math.MaxInt, math.MinInt} {
		may(t, api.Member{Path: "a", Node: api.Node{Kind: kind}}, false)
	}
}

// P12.1: what a Member's mode and attributes may be.
func TestMayModeAndAttributes(t *testing.T) {
	for mode, want := range map[uint32]bool{0: true, 0o644: true, 0o7777: true, 0o10000: false, 0o100644: false, math.MaxUint32: false} {
		may(t, withMode(mode), want)
	}
	long := strings.Repeat("n", 242)
	for _, names := range [][]string{nil, {"a"}, {"a", "b"}, {"B", "a"}, {"a", "aa"}, {long}, {" ", "\xff"}, {"user.a", "user.b"}, rising(16)} {
		may(t, withAttrs(attrs(names...)), true)
	}
	for _, names := range [][]string{{""}, {"", "a"}, {"b", "a"}, {"a", "a"}, {"a", "b", "b"}, {"b", "c", "a"}, {"aa", "a"}, {long + "n"}, {"a", "b\x00"}, {"a=b"}, {"a\n"}, {"="}, rising(17), rising(1000)} {
		may(t, withAttrs(attrs(names...)), false)
	}
	for kind := api.Dir; kind <= api.Fifo; kind++ {
		m := api.Member{Path: "a", Node: api.Node{Kind: kind, Attrs: []api.Attr{{Name: "n", Value: "\x00=\n"}}}}
		if kind == api.Symlink {
			m.Node.Link = "x"
		}
		may(t, m, true)
	}
}

// P12.1: what a Member's data and link may be.
func TestMayDataAndLink(t *testing.T) {
	for kind := api.Dir; kind <= api.Fifo; kind++ {
		m := api.Member{Path: "a", Node: api.Node{Kind: kind, Data: []byte{}}}
		may(t, m, kind != api.Symlink)
		m.Node.Link = "x"
		may(t, m, kind == api.Symlink)
		m.Node.Data = []byte("x")
		may(t, m, false)
		m.Node.Link = ""
		may(t, m, kind == api.File)
	}
	for to, want := range map[string]bool{"x": true, "/": true, "../..": true, "a=\n": true, strings.Repeat("x", 4096): true, "": false, "\x00": false, "a\x00": false, strings.Repeat("x", 4097): false} {
		may(t, link(to), want)
	}
	most := make([]byte, api.MaxBlob+1)
	may(t, file("a", most[1:]), true)
	may(t, file("a", most), false)
}

// P12.1: how many bytes are wanting.
func TestPad(t *testing.T) {
	for n, want := range map[int]int{0: 0, 1: 511, 2: 510, 511: 1, 512: 0, 513: 511, 1024: 0, math.MaxInt: 1, math.MaxInt - 511: 0, -1: 0, -511: 0, -512: 0, -513: 0, math.MinInt: 0} {
		if got := ours.Pad(n); got != want {
			t.Errorf("%d: %d, not %d", n, got, want)
		}
	}
	for n := range 5000 {
		if got := ours.Pad(n); got < 0 || got > 511 || (n+got)%ours.Block != 0 {
			t.Errorf("%d: %d", n, got)
		}
	}
}

// P12.1: the end is new memory of 1024 bytes 0; a block has 512 bytes.
func TestEnd(t *testing.T) {
	b := ours.End()
	if string(b) != zeros(1024) || ours.Block != 512 {
		t.Error(len(b), ours.Block)
	}
	for k := range b {
		b[k] = 1
	}
	if string(ours.End()) != zeros(1024) || !bytes.HasSuffix(put(t, file("a", nil)), []byte(zeros(1024))) {
		t.Error("the end is kept")
	}
}

func put(t *testing.T, l ...api.Member) []byte {
	t.Helper()
	b, e := ours.Put(l...)
	if e != api.OK {
		t.Fatalf("put of %d Members: %d", len(l), e)
	}
	return b
}

// P12.1: Members are the same by each of their fields, attributes in order.
func TestSame(t *testing.T) {
	full := func() api.Member {
		return api.Member{Path: "a", Node: api.Node{Kind: 2, Mode: 3, Uid: 4, Gid: 5, Time: 6, Attrs: []api.Attr{{Name: "b", Value: "v"}, {Name: "c", Value: "w"}}, Data: []byte("d"), Link: "l"}}
	}
	same := func(a, b api.Member, want bool) {
		t.Helper()
		if ours.Same(a, b) != want || ours.Same(b, a) != want {
			t.Errorf("%s, %s: %t", told(a), told(b), !want)
		}
	}
	same(full(), full(), true)
	same(api.Member{}, api.Member{}, true)
	same(api.Member{}, full(), false)
	for _, change := range []func(m *api.Member){
		func(m *api.Member) { m.Path = "b" },
		func(m *api.Member) { m.Node.Kind = 1 },
		func(m *api.Member) { m.Node.Mode++ },
		func(m *api.Member) { m.Node.Uid++ },
		func(m *api.Member) { m.Node.Gid++ },
		func(m *api.Member) { m.Node.Time = -6 },
		func(m *api.Member) { m.Node.Link = "" },
		func(m *api.Member) { m.Node.Data = nil },
		func(m *api.Member) { m.Node.Data = []byte("e") },
		func(m *api.Member) { m.Node.Data = []byte("dd") },
		func(m *api.Member) { m.Node.Attrs = nil },
		func(m *api.Member) { m.Node.Attrs = m.Node.Attrs[:1] },
		func(m *api.Member) { m.Node.Attrs = append(m.Node.Attrs, api.Attr{}) },
		func(m *api.Member) { m.Node.Attrs[1].Name = "d" },
		func(m *api.Member) { m.Node.Attrs[1].Value = "" },
		func(m *api.Member) { slices.Reverse(m.Node.Attrs) },
	} {
		m := full()
		change(&m)
		same(m, full(), false)
	}
	for _, l := range [][2]api.Node{{{Data: nil}, {Data: []byte{}}}, {{Attrs: nil}, {Attrs: []api.Attr{}}}} {
		same(api.Member{Path: "a", Node: l[0]}, api.Member{Path: "a", Node: l[1]}, true)
	}
}

// P12.1, P12.2: the chapter's examples, and headers by hand.
func TestHeadersByHand(t *testing.T) {
	b := put(t, file("a", []byte("abc")))
	if len(b) != 2048 || string(b) != block("size", "00000000003\x00")+"abc"+zeros(509+1024) {
		t.Errorf("%q", b)
	}
	if b := put(t, api.Member{Path: dirs(254), Node: api.Node{Kind: api.Dir}}); len(b) != 3072 {
		t.Error(len(b))
	}
	puts(t, []api.Member{{Path: "d", Node: api.Node{Kind: api.Dir, Mode: 0o755, Uid: 1, Gid: 8, Time: 64}}},
		block("name", "d/", "type", "5", "mode", "0000755\x00", "uid", "0000001\x00", "gid", "0000010\x00", "mtime", "00000000100\x00")+zeros(1024))
	puts(t, []api.Member{link("../x")}, block("name", "l", "type", "2", "linkname", "../x")+zeros(1024))
	puts(t, []api.Member{{Path: "p/q", Node: api.Node{Kind: api.Fifo, Mode: 0o7777}}}, block("name", "p/q", "type", "6", "mode", "0007777\x00")+zeros(1024))
	all := api.Node{Kind: api.Symlink, Uid: 2097152, Gid: math.MaxUint32, Time: -1, Attrs: attrs("a", "b"), Link: strings.Repeat("l", 101)}
	n := strings.Repeat("n", 101)
	texts := "111 path=" + n + "\n" + "115 linkpath=" + all.Link + "\n" + "15 uid=2097152\n" + "18 gid=4294967295\n" + "12 mtime=-1\n" + "19 SCHILY.xattr.a=\n" + "20 SCHILY.xattr.b=v\n"
	puts(t, []api.Member{{Path: n, Node: all}}, xOf(texts)+block("name", "pax", "type", "2")+zeros(1024))
	puts(t, nil, zeros(1024))
}

// P12.1: each number at the edges of its field.
func TestNumbersThatFit(t *testing.T) {
	for _, c := range []struct {
		n       api.Node
		fields  []string
		records []string
	}{
		{api.Node{Uid: 2097151}, []string{"uid", "7777777\x00"}, nil},
		{api.Node{Uid: 2097152}, nil, []string{"uid", "2097152"}},
		{api.Node{Gid: 2097151}, []string{"gid", "7777777\x00"}, nil},
		{api.Node{Gid: 2097152}, nil, []string{"gid", "2097152"}},
		{api.Node{Time: 8589934591}, []string{"mtime", "77777777777\x00"}, nil},
		{api.Node{Time: 8589934592}, nil, []string{"mtime", "8589934592"}},
		{api.Node{Time: math.MinInt64}, nil, []string{"mtime", "-9223372036854775808"}},
		{api.Node{Uid: 1, Gid: 2097152, Time: 2}, []string{"uid", octal(1, 8), "mtime", octal(2, 12)}, []string{"gid", "2097152"}},
	} {
		c.n.Kind = api.File
		want := block(c.fields...)
		if c.records != nil {
			want = x(c.records...) + want
		}
		puts(t, []api.Member{{Path: "a", Node: c.n}}, want+zeros(1024))
	}
}

// names is a row of names of so many bytes each, a slash between.
func names(sizes ...int) string {
	var l []string
	for _, size := range sizes {
		l = append(l, strings.Repeat("n", size))
	}
	return strings.Join(l, "/")
}

// P12.1: long names at the edges of name and prefix: the sizes of a path's names, and how many bytes of the long name are the prefix, and the name; none, if it needs a record.
func TestLongNames(t *testing.T) {
	for _, c := range []struct {
		kind         int
		sizes        []int
		prefix, name int
	}{
		{api.File, []int{100}, 0, 100},
		{api.File, []int{49, 50}, 0, 100},
		{api.File, []int{50, 50}, 50, 50},
		{api.File, []int{1, 100}, 1, 100},
		{api.File, []int{1, 101}, 0, 0},
		{api.File, []int{101}, 0, 0},
		{api.File, []int{155, 100}, 155, 100},
		{api.File, []int{155, 101}, 0, 0},
		{api.File, []int{156, 1}, 0, 0},
		{api.File, []int{156, 100}, 0, 0},
		{api.File, []int{154, 100}, 154, 100},
		{api.File, []int{77, 77, 100}, 155, 100},
		{api.File, []int{77, 78, 99}, 0, 0},
		{api.File, []int{54, 100, 99}, 155, 99},
		{api.File, []int{54, 101, 99}, 0, 0},
		{api.File, []int{56, 98, 1}, 155, 1},
		{api.File, []int{57, 98, 1}, 57, 100},
		{api.File, []int{57, 99, 1}, 0, 0},
		{api.File, []int{50, 20, 20, 20}, 92, 20},
		{api.Dir, []int{99}, 0, 100},
		{api.Dir, []int{100}, 0, 0},
		{api.Dir, []int{50, 49}, 50, 50},
		{api.Dir, []int{155, 99}, 155, 100},
		{api.Dir, []int{155, 100}, 0, 0},
		{api.Dir, []int{1, 99}, 1, 100},
		{api.Dir, []int{1, 100}, 0, 0},
		{api.Dir, []int{60, 60, 1}, 121, 2},
		{api.Dir, []int{60, 94}, 60, 95},
		{api.Dir, []int{50, 104}, 0, 0},
	} {
		p := names(c.sizes...)
		long := p
		if c.kind == api.Dir {
			long += "/"
		}
		fields := []string{"type", types[c.kind]}
		want := ""
		switch {
		case c.name == 0:
			want = x("path", long)
			fields = append(fields, "name", "pax")
		case c.prefix == 0:
			fields = append(fields, "name", long)
		default:
			fields = append(fields, "prefix", long[:c.prefix], "name", long[c.prefix+1:])
		}
		puts(t, []api.Member{{Path: p, Node: api.Node{Kind: c.kind}}}, want+block(fields...)+zeros(1024))
	}
}

// P12.1: links at the edge of their field.
func TestLongLinks(t *testing.T) {
	for _, size := range []int{1, 99, 100, 101, 4096} {
		to := strings.Repeat("l", size)
		want := block("name", "l", "type", "2", "linkname", to[:min(size, 100)])
		if size > 100 {
			want = x("linkpath", to) + block("name", "l", "type", "2")
		}
		puts(t, []api.Member{link(to)}, want+zeros(1024))
	}
}

// P12.1, P12.2: any Members, against the chapter in its plainest reading.
func TestPutAny(t *testing.T) {
	random := rand.New(rand.NewSource(121))
	for range 3000 {
		l := anyMembers(random, 5)
		puts(t, l, plainPut(l))
	}
}

// P12.1, P12.2: records of more than MaxBlob bytes can't be laid.
func TestTooLongRecords(t *testing.T) {
	value := strings.Repeat("v", api.MaxBlob)
	// A text of MaxBlob bytes: 8 digits, a blank, the key, = and a newline beside the value.
	most := len(value) - len("16777216 SCHILY.xattr.a=\n")
	fits := withAttrs([]api.Attr{{Name: "a", Value: value[:most]}})
	if h, e := ours.Head(fits); e != api.OK || string(h) != plainHead(fits) {
		t.Error(len(h), e)
	}
	for _, l := range [][]api.Attr{{{Name: "a", Value: value[:most+1]}}, {{Name: "a", Value: value[:most]}, {Name: "b"}}} {
		m := withAttrs(l)
		if h, e := ours.Head(m); len(h) != 0 || e != api.ErrLong || !ours.May(m) {
			t.Error(len(h), e)
		}
		refusesPut(t, []api.Member{m}, api.ErrLong)
		refusesPut(t, []api.Member{m, {}}, api.ErrArg)
	}
}

// P12.2: 2^26 bytes, the end among them, and a block more.
func TestMostBytes(t *testing.T) {
	most := make([]byte, api.MaxBlob)
	left := 1<<26 - 3*(api.MaxBlob+512) - 512 - 1024
	l := []api.Member{file("a", most), file("b", most), file("c", most), file("d", most[:left])}
	if b, e := ours.Put(l...); e != api.OK || len(b) != 1<<26 {
		t.Error(len(b), e)
	}
	l[3] = file("d", most[:left-511])
	if b, e := ours.Put(l...); e != api.OK || len(b) != 1<<26 {
		t.Error(len(b), e)
	}
	for _, more := range [][]api.Member{{file("d", most[:left+1])}, {file("d", most[:left]), file("e", nil)}, {file("d", most)}, {file("d", most), file("e", most)}} {
		refusesPut(t, append(l[:3:3], more...), api.ErrLong)
	}
	// What is told in all is far more than there is room for.
	refusesPut(t, slices.Repeat([]api.Member{file("a", most)}, api.MaxFiles), api.ErrLong)
}

// P12.2: MaxFiles Members, one more, and which error goes ahead.
func TestMostMembers(t *testing.T) {
	l := slices.Repeat([]api.Member{file("a", nil)}, api.MaxFiles)
	if b, e := ours.Put(l...); e != api.OK || string(b) != strings.Repeat(block(), api.MaxFiles)+zeros(1024) {
		t.Error(len(b), e)
	}
	refusesPut(t, append(l, file("a", nil)), api.ErrLimit)
	refusesPut(t, append(l, file("", nil)), api.ErrArg)
	refusesPut(t, append(l, link("x"), link("")), api.ErrArg)
	long := slices.Repeat([]api.Member{file("a", make([]byte, api.MaxBlob))}, 5)
	refusesPut(t, long, api.ErrLong)
	refusesPut(t, append(l, long...), api.ErrLimit)
	refusesPut(t, append(long, file("a\x00", nil)), api.ErrArg)
}

// P12.1, P12.2: what is told is new memory.
func TestPutNewMemory(t *testing.T) {
	m := file("a", []byte("abc"))
	m.Node.Attrs = attrs("a")
	for range 3 {
		h, e := ours.Head(m)
		if e != api.OK || string(h) != plainHead(m) {
			t.Fatal(e)
		}
		clear(h[:cap(h)])
		b := put(t, m)
		if string(b) != plainPut([]api.Member{m}) {
			t.Fatal(string(b))
		}
		clear(b[:cap(b)])
	}
	if string(m.Node.Data) != "abc" {
		t.Error(m.Node.Data)
	}
}

// P12.5: all is whole blocks: Heads, Data and padding, and the end.
func TestParts(t *testing.T) {
	random := rand.New(rand.NewSource(125))
	for range 500 {
		l := anyMembers(random, 6)
		var all []byte
		for _, m := range l {
			h, e := ours.Head(m)
			if e != api.OK || len(h)%ours.Block != 0 {
				t.Fatal(len(h), e)
			}
			all = slices.Concat(all, h, m.Node.Data, make([]byte, ours.Pad(len(m.Node.Data))))
		}
		all = append(all, ours.End()...)
		if b := put(t, l...); !bytes.Equal(b, all) || len(b)%ours.Block != 0 {
			t.Errorf("%s: %d bytes, not %d", short(fmt.Sprint(allTold(l))), len(b), len(all))
		}
	}
}

// libraryReads holds the library's reading of a header against a Member.
func libraryReads(t *testing.T, h *tar.Header, data []byte, m api.Member) {
	t.Helper()
	n := m.Node
	name := m.Path
	if n.Kind == api.Dir {
		name += "/"
	}
	got := []any{h.Name, string(h.Typeflag), h.Mode, h.Uid, h.Gid, h.ModTime.Unix(), h.Linkname, len(data)}
	want := []any{name, types[n.Kind], int64(n.Mode), int(n.Uid), int(n.Gid), n.Time, n.Link, len(n.Data)}
	if fmt.Sprint(got...) != fmt.Sprint(want...) || !bytes.Equal(data, n.Data) {
		t.Errorf("%q, not %q", got, want)
	}
	for _, a := range n.Attrs {
		if h.PAXRecords["SCHILY.xattr."+a.Name] != a.Value {
			t.Errorf("%s: %q", a.Name, h.PAXRecords)
		}
	}
}

// P12.2: the library reads what is put.
func TestLibraryReads(t *testing.T) {
	random := rand.New(rand.NewSource(122))
	for range 1000 {
		l := anyMembers(random, 6)
		r := tar.NewReader(bytes.NewReader(put(t, l...)))
		for _, m := range l {
			h, err := r.Next()
			if err != nil {
				t.Fatal(err, told(m))
			}
			data, err := io.ReadAll(r)
			if err != nil {
				t.Fatal(err)
			}
			libraryReads(t, h, data, m)
		}
		if _, err := r.Next(); err != io.EOF {
			t.Fatal(err)
		}
	}
}
