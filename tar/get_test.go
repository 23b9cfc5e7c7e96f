package tar_test

import (
	"archive/tar"
	"bytes"
	"fmt"
	"math"
	"math/rand"
	"slices"
	"strings"
	"testing"
	"time"

	"portolan/api"
	ours "portolan/tar"
)

// whole is an entry of so many bytes that follow its header.
func whole(behind string, fields ...string) string {
	return block(append([]string{"size", octal(int64(len(behind)), 12)}, fields...)...) + padded(behind)
}

// refuses holds Get's error, of entries and an end behind them, against what is wanted; and so if a good entry is ahead.
func refuses(t *testing.T, entries string, want api.Errno) {
	t.Helper()
	for _, ahead := range []string{"", block(), x("path", "b") + block()} {
		gets(t, ahead+entries+zeros(end), nil, want)
	}
	if _, e := plainGet(entries + zeros(end)); e != want {
		t.Errorf("the plain reading of %s: %d, not %d", short(entries), e, want)
	}
}

// tells holds what Get tells of entries, and an end behind them, against the node that is wanted at the path a.
func tells(t *testing.T, entries string, want api.Node) {
	t.Helper()
	if want.Kind == 0 {
		want.Kind = api.File
	}
	gets(t, entries+zeros(end), []api.Member{{Path: "a", Node: want}}, api.OK)
}

// P12.3, step 1: the end, and what is no end.
func TestEndRead(t *testing.T) {
	a := []api.Member{{Path: "a", Node: api.Node{Kind: api.File}}}
	for _, behind := range []string{"", "x", zeros(1), zeros(512), block(), "what stands behind is not looked at" + zeros(5000)} {
		gets(t, zeros(end)+behind, nil, api.OK)
		gets(t, block()+zeros(end)+behind, a, api.OK)
		gets(t, x("path", "a")+zeros(end)+behind, nil, api.ErrForm)
	}
	for _, ahead := range []string{"", block(), whole("abc"), x("path", "a")} {
		for _, many := range []int{0, 1, 100, 511, 512, 513, 1023} {
			gets(t, ahead+zeros(many), nil, api.ErrShort)
		}
		for _, second := range []string{block(), zeros(511) + "x", "x" + zeros(511), strings.Repeat("x", 512)} {
			gets(t, ahead+zeros(512)+second, nil, api.ErrForm)
			gets(t, ahead+zeros(512)+second[:511], nil, api.ErrShort)
		}
	}
}

// P12.3, step 2: headers that check, and others.
func TestHeaderChecked(t *testing.T) {
	tells(t, block("magic", "ustar "), api.Node{})
	tells(t, block("magic", "ustar ", "version", " \x00"), api.Node{})
	tells(t, block("version", "99", "uname", "root", "gname", "root", "devmajor", "x", "devminor", "\xff"), api.Node{})
	for _, magic := range []string{"", "ustar", "ustar0", "ustaR\x00", "USTAR ", "\x00ustar"} {
		want := api.ErrForm
		if magic == "ustar" {
			want = api.OK
		}
		if _, e := ours.Get([]byte(block("magic", magic) + zeros(end))); e != want {
			t.Errorf("%q: %d", magic, e)
		}
	}
	sum := plainSum([]byte(block()))
	tells(t, block("chksum", wide(sum, 8)), api.Node{})
	tells(t, block("chksum", fmt.Sprintf("   %o", sum)), api.Node{})
	refuses(t, block("chksum", octal(sum+1, 8)), api.ErrSum)
	refuses(t, block("chksum", octal(sum-1, 8)), api.ErrSum)
	refuses(t, block("chksum", ""), api.ErrSum)
	refuses(t, block("chksum", "9"), api.ErrForm)
	refuses(t, "x"+zeros(511), api.ErrForm)
	refuses(t, strings.Repeat("x", 512), api.ErrForm)
}

// P12.3, step 2: of all types five are kinds, and one an entry of records; block.Check's errors go ahead.
func TestTypes(t *testing.T) {
	kinds := map[byte]int{'0': api.File, 0: api.File, '2': api.Symlink, '5': api.Dir, '6': api.Fifo}
	for k := range 256 {
		what := []string{"type", string([]byte{byte(k)}), "linkname", "to"}
		n := api.Node{Kind: kinds[byte(k)]}
		if n.Kind == api.Symlink {
			n.Link = "to"
		}
		if n.Kind != 0 {
			tells(t, block(what...), n)
			continue
		}
		if k == 'x' {
			gets(t, block(what...)+block()+zeros(end), []api.Member{{Path: "a", Node: api.Node{Kind: api.File}}}, api.OK)
			continue
		}
		refuses(t, block(what...), api.ErrKind)
		refuses(t, block(append(what, "chksum", octal(0, 8))...), api.ErrSum)
		refuses(t, block(append(what, "mode", "x", "size", "x")...), api.ErrKind)
		refuses(t, x()+block(what...), api.ErrKind)
	}
}

// P12.3, step 3: entries of records that may not be, and which error goes ahead.
func TestRecordsEntry(t *testing.T) {
	tells(t, x()+block(), api.Node{})
	tells(t, block("type", "x", "mode", "x", "uid", "x", "gid", "x", "mtime", "x", "name", "/../x")+block(), api.Node{})
	tells(t, block("type", "x", "size", wide(9, 12))+padded("9 path=a\n")+block("name", "z"), api.Node{})
	tells(t, block("type", "x", "size", octal(9, 12))+"9 path=a\n"+strings.Repeat("x", 503)+block("name", "z"), api.Node{})
	refuses(t, x("path", "b"), api.ErrForm)
	sized := func(size string) string { return block("type", "x", "size", size) }
	refuses(t, sized("x"), api.ErrForm)
	refuses(t, sized(wide(-1, 12)), api.ErrForm)
	refuses(t, sized(wide(math.MinInt64, 12)), api.ErrForm)
	refuses(t, sized("\x80\x00\x00\x00\x80"), api.ErrLong)
	refuses(t, sized("\xff\x00\x00\x00\x80"), api.ErrLong)
	refuses(t, sized(octal(api.MaxBlob+1, 12)), api.ErrLong)
	refuses(t, sized(wide(math.MaxInt64, 12)), api.ErrLong)
	refuses(t, sized(octal(api.MaxBlob, 12)), api.ErrShort)
	// An x waits already: that is told behind what is wrong with the size, ahead of all else.
	refuses(t, x()+x()+block(), api.ErrForm)
	refuses(t, x()+sized("x"), api.ErrForm)
	refuses(t, x()+sized(octal(api.MaxBlob+1, 12)), api.ErrLong)
	refuses(t, x()+sized(octal(api.MaxBlob, 12)), api.ErrForm)
	for _, texts := range []string{"x", "9 path=", "9 path=a\n9", "9 path=a\n9 path=", "10 path=a\n", "9 path=ab", zeros(9), "5 k=\n" + zeros(1)} {
		refuses(t, xOf(texts)+block(), api.ErrForm)
	}
	// Its records are those of one entry alone.
	gets(t, x("path", "b", "uid", "7")+block()+block()+zeros(end), []api.Member{{Path: "b", Node: api.Node{Kind: api.File, Uid: 7}}, {Path: "a", Node: api.Node{Kind: api.File}}}, api.OK)
	gets(t, x("path", ".", "uid", "7")+block("type", "5")+block()+zeros(end), []api.Member{{Path: "a", Node: api.Node{Kind: api.File}}}, api.OK)
	gets(t, x("path", "b")+block()+x("uid", "7")+block()+zeros(end), []api.Member{{Path: "b", Node: api.Node{Kind: api.File}}, {Path: "a", Node: api.Node{Kind: api.File, Uid: 7}}}, api.OK)
}

// P12.3, steps 1 and 3: entries of records and Data that are cut short.
func TestCutShort(t *testing.T) {
	s := x("path", "b", "SCHILY.xattr.n", strings.Repeat("v", 600)) + whole(strings.Repeat("x", 700)) + zeros(end)
	for n := range s {
		gets(t, s[:n], nil, api.ErrShort)
	}
	gets(t, whole(strings.Repeat("x", 513))[:512+1023], nil, api.ErrShort)
	gets(t, xOf("9 path=a\n")[:512+511], nil, api.ErrShort)
	// What is cut short is not read.
	gets(t, xOf("x")[:512+511], nil, api.ErrShort)
}

// P12.3, step 4: numbers of fields.
func TestFieldNumbers(t *testing.T) {
	tells(t, block("mode", "7777"), api.Node{Mode: 0o7777})
	tells(t, block("mode", "0100644"), api.Node{Mode: 0o644})
	tells(t, block("mode", "7777777"), api.Node{Mode: 0o7777})
	tells(t, block("mode", wide(1<<50+5, 8)), api.Node{Mode: 5})
	tells(t, block("mode", "", "uid", "", "gid", "        ", "size", "", "mtime", ""), api.Node{})
	tells(t, block("uid", " 17 x", "gid", "12345670"), api.Node{Uid: 15, Gid: 0o12345670})
	tells(t, block("uid", wide(math.MaxUint32, 8), "gid", wide(1<<31, 8)), api.Node{Uid: math.MaxUint32, Gid: 1 << 31})
	tells(t, block("mtime", wide(-1, 12)), api.Node{Time: -1})
	tells(t, block("mtime", wide(math.MinInt64, 12)), api.Node{Time: math.MinInt64})
	tells(t, block("mtime", wide(math.MaxInt64, 12)), api.Node{Time: math.MaxInt64})
	tells(t, block("mtime", "777777777777"), api.Node{Time: 1<<36 - 1})
	tells(t, block("size", wide(3, 12))+padded("abc"), api.Node{Data: []byte("abc")})
	for _, name := range []string{"mode", "uid", "gid", "size", "mtime"} {
		many := places[name][1]
		for _, v := range []string{"9", "x", "-1", "+1", "1x", "1-", "\t1", "0x1", "\x7f"} {
			refuses(t, block(name, v), api.ErrForm)
		}
		if name != "mtime" {
			refuses(t, block(name, wide(-1, many)), api.ErrForm)
			refuses(t, block(name, wide(-1<<61, many)), api.ErrForm)
		}
		if many == 12 {
			refuses(t, block(name, "\x80\x00\x00\x00\x80"), api.ErrLong)
			refuses(t, block(name, "\xff\xff\xff\xff\x7f"), api.ErrLong)
		}
	}
	for _, name := range []string{"uid", "gid"} {
		refuses(t, block(name, wide(math.MaxUint32+1, 8)), api.ErrForm)
		refuses(t, block(name, wide(1<<61, 8)), api.ErrForm)
	}
}

// P12.3, step 4: numbers of records, the last one of a name, ahead of the fields.
func TestRecordNumbers(t *testing.T) {
	tells(t, x("uid", "4294967295", "gid", "0", "mtime", "-9223372036854775808")+block("uid", "1", "gid", "1", "mtime", "1"), api.Node{Uid: math.MaxUint32, Time: math.MinInt64})
	tells(t, x("uid", "1", "gid", "x", "uid", "2", "gid", "3")+block(), api.Node{Uid: 2, Gid: 3})
	tells(t, x("mtime", "9223372036854775807")+block(), api.Node{Time: math.MaxInt64})
	tells(t, x("uid", "1", "gid", "2", "size", "3", "mtime", "4")+block("uid", "x", "gid", wide(-1, 8), "size", "x", "mtime", "\x80\x00\x00\x00\x80")+padded("abc"), api.Node{Uid: 1, Gid: 2, Data: []byte("abc"), Time: 4})
	tells(t, x("size", "0")+block("size", "777"), api.Node{})
	// A record of a mode, or of another name, tells nothing.
	tells(t, x("mode", "x", "mode", "511", "UID", "9", "uid ", "9", "name", "z", "prefix", "z", "linkname", "z", "chksum", "0", "type", "5", "SCHILY.xattr.", "v", "schily.xattr.a", "v", "SCHILY.xattr", "v")+block("mode", "1"), api.Node{Mode: 1})
	refuses(t, x("mode", "1")+block("mode", "x"), api.ErrForm)
	for _, name := range []string{"uid", "gid", "size", "mtime"} {
		for _, v := range []string{"", "x", " 1", "1 ", "01", "+1", "-0", "1.5", "0x1", "9223372036854775808"} {
			refuses(t, x(name, v)+block(), api.ErrForm)
			refuses(t, x(name, "1", name, v)+block(), api.ErrForm)
		}
		if name != "mtime" {
			refuses(t, x(name, "-1")+block(), api.ErrForm)
		}
	}
	refuses(t, x("uid", "4294967296")+block(), api.ErrForm)
	refuses(t, x("gid", "4294967296")+block(), api.ErrForm)
	refuses(t, x("size", "16777217")+block(), api.ErrLong)
	refuses(t, x("size", "9223372036854775807")+block(), api.ErrLong)
	refuses(t, x("size", "16777216")+block(), api.ErrShort)
}

// P12.3, step 4: of several numbers that may not be the first one is told, and a kind ahead of them.
func TestNumbersInOrder(t *testing.T) {
	long := octal(api.MaxBlob+1, 12)
	refuses(t, block("size", long, "mtime", "x"), api.ErrLong)
	refuses(t, block("size", "x", "mtime", "\x80\x00\x00\x00\x80"), api.ErrForm)
	for _, name := range []string{"mode", "uid", "gid"} {
		refuses(t, block(name, wide(-1, 8), "size", long), api.ErrForm)
		refuses(t, block(name, "x", "size", "\x80\x00\x00\x00\x80"), api.ErrForm)
	}
	refuses(t, block("mtime", "\x80\x00\x00\x00\x80", "size", octal(5000, 12)), api.ErrLong)
	refuses(t, block("mtime", "x", "size", octal(5000, 12)), api.ErrForm)
	refuses(t, block("mtime", "x", "name", "/a"), api.ErrForm)
}

// P12.3, step 5: a File's bytes are its Data, those of others are passed over.
func TestBytesBehind(t *testing.T) {
	for _, size := range []int{0, 1, 511, 512, 513, 1024, 3000} {
		data := strings.Repeat("x", size)
		tells(t, whole(data), api.Node{Data: []byte(data)})
		tells(t, whole(data, "type", "\x00"), api.Node{Data: []byte(data)})
		tells(t, whole(data, "type", "5"), api.Node{Kind: api.Dir})
		tells(t, whole(data, "type", "6"), api.Node{Kind: api.Fifo})
		tells(t, whole(data, "type", "2", "linkname", "to"), api.Node{Kind: api.Symlink, Link: "to"})
		gets(t, whole(data, "type", "5", "name", "./")+zeros(end), nil, api.OK)
	}
	// What stands behind the bytes, up to the next block, is not looked at.
	tells(t, block("size", octal(3, 12))+"abc"+strings.Repeat("x", 509), api.Node{Data: []byte("abc")})
	for _, kind := range []string{"0", "2", "5", "6"} {
		gets(t, block("type", kind, "name", "/", "size", octal(513, 12))+zeros(end-1), nil, api.ErrShort)
	}
	most := strings.Repeat("x", api.MaxBlob)
	l, e := ours.Get([]byte(whole(most) + zeros(end)))
	if e != api.OK || len(l) != 1 || string(l[0].Node.Data) != most {
		t.Error(len(l), e)
	}
}

// P12.3, step 6: paths of names and prefixes, made clean.
func TestPathRead(t *testing.T) {
	for _, c := range []struct{ prefix, name, want string }{
		{"", "a", "a"}, {"", "./a", "a"}, {"", "a/", "a"}, {"", "a//b/./c", "a/b/c"}, {"p", "n", "p/n"}, {"p/", "n", "p/n"}, {"p", "/n", "p/n"}, {"p", "", "p"}, {".", "n", "n"}, {"p/q", "n/", "p/q/n"},
		{"", ".wh.a", ".wh.a"}, {"d", ".wh.a", "d/.wh.a"}, {"d", ".wh..wh..opq", "d/.wh..wh..opq"}, {"", ".wh..wh.toc", ".wh..wh.toc"},
		{"", strings.Repeat("n", 100), strings.Repeat("n", 100)}, {strings.Repeat("p", 155), strings.Repeat("n", 100), strings.Repeat("p", 155) + "/" + strings.Repeat("n", 100)}, {"p", "n\x00behind", "p/n"},
	} {
		for _, kind := range []int{api.File, api.Dir, api.Fifo} {
			s := block("prefix", c.prefix, "name", c.name, "type", types[kind])
			gets(t, s+zeros(end), []api.Member{{Path: c.want, Node: api.Node{Kind: kind}}}, api.OK)
			// The last record goes ahead of both.
			gets(t, x("path", "/", "path", "r/./s/")+s+zeros(end), []api.Member{{Path: "r/s", Node: api.Node{Kind: kind}}}, api.OK)
		}
	}
	for _, name := range []string{"/a", "/", "..", "a/..", "a/../b", "../a"} {
		for _, kind := range []string{"0", "2", "5", "6"} {
			refuses(t, block("name", name, "type", kind), api.ErrPath)
			refuses(t, x("path", "a", "path", name)+block("type", kind), api.ErrPath)
		}
	}
	refuses(t, x("path", "a\x00")+block(), api.ErrPath)
	refuses(t, block("prefix", "/", "name", "a"), api.ErrPath)
	refuses(t, block("prefix", "p", "name", ".."), api.ErrPath)
	long := strings.Repeat("n", 256)
	refuses(t, x("path", long)+block(), api.ErrLong)
	refuses(t, x("path", long+"/..")+block(), api.ErrPath)
	refuses(t, x("path", strings.Repeat("n/", 256))+block(), api.ErrLong)
	refuses(t, x("path", strings.Repeat(long[:250]+"/", 17))+block(), api.ErrLong)
}

// P12.3, step 6: the root, and paths that are none of a changeset.
func TestRootAndReserved(t *testing.T) {
	for _, root := range []string{"", ".", "./", "././"} {
		gets(t, block("name", root, "type", "5", "mode", "755")+block()+zeros(end), []api.Member{{Path: "a", Node: api.Node{Kind: api.File}}}, api.OK)
		gets(t, x("path", root)+block("type", "5")+zeros(end), nil, api.OK)
		for _, kind := range []string{"0", "\x00", "2", "6"} {
			refuses(t, block("name", root, "type", kind), api.ErrPath)
			refuses(t, x("path", root)+block("type", kind), api.ErrPath)
		}
	}
	many := []string{"path", "."}
	for k := range 17 {
		many = append(many, fmt.Sprint("SCHILY.xattr.", k), "v")
	}
	gets(t, x(many...)+block("type", "5")+zeros(end), nil, api.OK)
	for _, p := range []string{".wh.", ".wh..", ".wh...", ".wh.a/b", "a/.wh..wh.toc", ".wh..wh.x", ".wh..wh..opq/a", strings.Repeat("n", 252), ".wh." + strings.Repeat("n", 250) + "/a", dirs(255)} {
		for _, kind := range []string{"0", "2", "5", "6"} {
			refuses(t, x("path", p)+block("type", kind), api.ErrReserved)
		}
	}
}

// P12.3, step 7: links of fields and records.
func TestLinkRead(t *testing.T) {
	sym := func(to string) string { return block("type", "2", "linkname", to) }
	for _, to := range []string{"to", "/", "../..", " ", strings.Repeat("l", 100)} {
		tells(t, sym(to), api.Node{Kind: api.Symlink, Link: to})
		tells(t, x("linkpath", "", "linkpath", to)+sym("no"), api.Node{Kind: api.Symlink, Link: to})
		// Of all others it tells nothing.
		tells(t, x("linkpath", "to")+block("linkname", to), api.Node{})
		tells(t, x("linkpath", "to")+block("linkname", to, "type", "5"), api.Node{Kind: api.Dir})
		tells(t, x("linkpath", "")+block("linkname", to, "type", "6"), api.Node{Kind: api.Fifo})
	}
	tells(t, sym("to\x00behind"), api.Node{Kind: api.Symlink, Link: "to"})
	tells(t, x("linkpath", strings.Repeat("l", 4096))+sym(""), api.Node{Kind: api.Symlink, Link: strings.Repeat("l", 4096)})
	refuses(t, sym(""), api.ErrForm)
	refuses(t, sym("\x00to"), api.ErrForm)
	refuses(t, x("linkpath", "")+sym("to"), api.ErrForm)
	refuses(t, x("linkpath", "to\x00")+sym("to"), api.ErrForm)
	refuses(t, x("linkpath", strings.Repeat("l", 4097))+sym("to"), api.ErrLong)
	refuses(t, x("linkpath", strings.Repeat("l", 4097)+"\x00")+sym("to"), api.ErrForm)
	// The path goes ahead.
	refuses(t, x("path", "..", "linkpath", "")+sym("to"), api.ErrPath)
	refuses(t, x("path", ".wh.", "linkpath", "")+sym("to"), api.ErrReserved)
}

// attrRecords are records of attributes of so many names, each twice, the last ones first.
func attrRecords(many int) []string {
	var l []string
	for _, value := range []string{"first", "last"} {
		for k := many; k > 0; k-- {
			l = append(l, fmt.Sprintf("SCHILY.xattr.n%02d", k), value)
		}
	}
	return l
}

// P12.3, step 8: attributes rise, of one name the last one stands, and there are at most MaxAttrs.
func TestAttributesRead(t *testing.T) {
	const key = "SCHILY.xattr."
	tells(t, x(key+"b", "1", key+"a", "2", "other", "x", key, "x", key+"b", "3", key+"c", "")+block(), api.Node{Attrs: []api.Attr{{Name: "a", Value: "2"}, {Name: "b", Value: "3"}, {Name: "c", Value: ""}}})
	tells(t, x(key+key, "\x00=\n", key+" ", "v")+block("type", "5"), api.Node{Kind: api.Dir, Attrs: []api.Attr{{Name: " ", Value: "v"}, {Name: key, Value: "\x00=\n"}}})
	long := strings.Repeat("n", 242)
	tells(t, x(key+long, long)+block(), api.Node{Attrs: []api.Attr{{Name: long, Value: long}}})
	var want []api.Attr
	for k := range 16 {
		want = append(want, api.Attr{Name: fmt.Sprintf("n%02d", k+1), Value: "last"})
	}
	tells(t, x(attrRecords(16)...)+block(), api.Node{Attrs: want})
	refuses(t, x(attrRecords(17)...)+block(), api.ErrLimit)
	refuses(t, x(attrRecords(90)...)+block(), api.ErrLimit)
	many := attrRecords(17)
	refuses(t, x(append(many, "linkpath", "")...)+block("type", "2"), api.ErrForm)
	refuses(t, x(append(many, "path", "/")...)+block(), api.ErrPath)
}

// P12.3, step 8: MaxFiles Members, and one more; the root is none.
func TestMostMembersRead(t *testing.T) {
	l := slices.Repeat([]api.Member{{Path: "a", Node: api.Node{Kind: api.File}}}, api.MaxFiles)
	root := block("name", "./", "type", "5")
	all := root + strings.Repeat(block(), api.MaxFiles) + root
	gets(t, all+zeros(end), l, api.OK)
	gets(t, all+block()+zeros(end), nil, api.ErrLimit)
	gets(t, all+block(), nil, api.ErrLimit)
	gets(t, all+block("name", "/"), nil, api.ErrPath)
	gets(t, all+block("type", "x"), nil, api.ErrShort)
	gets(t, all+"x", nil, api.ErrShort)
}

// P12.4: Get of what Put tells are the Members.
func TestThereAndBack(t *testing.T) {
	random := rand.New(rand.NewSource(124))
	for range 3000 {
		l := anyMembers(random, 6)
		gets(t, string(put(t, l...)), l, api.OK)
	}
}

// P12.1, P12.4: each class of path with each kind is read as it was put.
func TestClassesThereAndBack(t *testing.T) {
	var l []api.Member
	for _, p := range []string{"a", "a/.wh.b", ".wh..wh..opq", ".wh..wh.toc", dirs(254), dirs(254) + "/.wh..wh..opq", strings.Repeat(strings.Repeat("n", 251)+"/", 16) + strings.Repeat("n", 48), names(155, 100), names(155, 101)} {
		for kind := api.Dir; kind <= api.Fifo; kind++ {
			n := api.Node{Kind: kind}
			if kind == api.Symlink {
				n.Link = p
			}
			l = append(l, api.Member{Path: p, Node: n})
		}
	}
	gets(t, string(put(t, l...)), l, api.OK)
}

// pick is one of these texts.
func pick(random *rand.Rand, l ...string) string { return l[random.Intn(len(l))] }

// anyFields are some fields of a header as others may lay them.
func anyFields(random *rand.Rand) []string {
	var l []string
	set := func(name string, v ...string) {
		if random.Intn(3) == 0 {
			l = append(l, name, pick(random, v...))
		}
	}
	set("name", "a", "./a", "a/", "d/b", ".", "", "d/.wh.b", ".wh..wh..opq", "d/..", "/a", ".wh.", strings.Repeat("n", 100))
	set("prefix", "p", "p/q", ".", strings.Repeat("p", 155), "/p")
	set("type", "0", "\x00", "2", "5", "6", "5", "2", "1")
	set("linkname", "to", "to", "../to", strings.Repeat("l", 100))
	for _, name := range []string{"mode", "uid", "gid"} {
		set(name, octal(8, 8), " 755", "1777777", "12345670", wide(1<<32-1, 8), wide(1<<32-1, 8), wide(int64(random.Uint64())>>(2+random.Intn(60)), 8))
	}
	set("mtime", octal(1700000000, 12), octal(1700000000, 12), wide(int64(random.Uint64()), 12), "777777777777", string(someBytes(random, 12)))
	set("magic", "ustar\x00", "ustar ")
	if random.Intn(60) == 0 {
		l = append(l, pick(random, "mode", "uid", "gid", "mtime", "chksum", "magic", "size"), pick(random, "x", "1", "\xff", "\x80"))
	}
	return l
}

// anyRecords are some records as others may lay them.
func anyRecords(random *rand.Rand) []string {
	var l []string
	for range random.Intn(5) {
		switch random.Intn(7) {
		case 0:
			l = append(l, "path", pick(random, "a", "./a/", anyPath(random), strings.Repeat("n", 252), "d/.wh..wh.toc", "/a", "."))
		case 1:
			l = append(l, "linkpath", pick(random, "to", "to", "../to", strings.Repeat("l", 4096), strings.Repeat("l", 4097), "", "\x00"))
		case 2:
			l = append(l, pick(random, "uid", "gid"), pick(random, "0", "1000", "4294967295", "4294967295", "4294967296", "-1", "01"))
		case 3:
			l = append(l, "mtime", pick(random, "0", "-1", "1.5", "1700000000", "-9223372036854775808"))
		case 4:
			l = append(l, pick(random, "mode", "comment", "atime", "SCHILY.xattr.", "LIBARCHIVE.xattr.a"), pick(random, "", "1", "x"))
		default:
			l = append(l, "SCHILY.xattr."+pick(random, "a", "b", "c", "user.x"), pick(random, "", "v", "\x00"))
		}
	}
	if random.Intn(40) == 0 {
		l = append(l, attrRecords(15+random.Intn(4))...)
	}
	return l
}

// anyTar is a tar as others may lay it, mostly a good one.
func anyTar(random *rand.Rand) string {
	var all strings.Builder
	for range 1 + random.Intn(4) {
		if random.Intn(2) == 0 {
			all.WriteString(x(anyRecords(random)...))
		}
		if random.Intn(40) != 0 {
			all.WriteString(whole(string(someBytes(random, random.Intn(3)*random.Intn(600))), anyFields(random)...))
		}
	}
	s := all.String() + zeros([]int{end, end, end, end, end + 512, end - 512, 0}[random.Intn(7)])
	if random.Intn(20) == 0 {
		s = s[:random.Intn(len(s)+1)]
	}
	if random.Intn(10) == 0 && s != "" {
		b := []byte(s)
		b[random.Intn(len(b))] = byte(random.Intn(256))
		s = string(b)
	}
	return s
}

// P12.3, P12.4: others' tars, against the chapter in its plainest reading; what is told Put takes, and Get of that is the same.
func TestOthersTars(t *testing.T) {
	random := rand.New(rand.NewSource(123))
	met := map[api.Errno]int{}
	for range 40000 {
		s := anyTar(random)
		want, e := plainGet(s)
		gets(t, s, want, e)
		met[e]++
		if e == api.OK {
			gets(t, string(put(t, want...)), want, api.OK)
		}
	}
	for _, e := range []api.Errno{api.OK, api.ErrLong, api.ErrShort, api.ErrForm, api.ErrSum, api.ErrPath, api.ErrKind, api.ErrReserved, api.ErrLimit} {
		if met[e] < 100 {
			t.Errorf("%d: only %d times", e, met[e])
		}
	}
}

// P12.6: each byte of each header's block, outside of chksum, to any other byte.
func TestHeaderBytesChanged(t *testing.T) {
	m := api.Member{Path: "d/" + names(100, 100), Node: api.Node{Kind: api.Symlink, Mode: 0o777, Uid: 5, Gid: 1 << 22, Time: 77, Attrs: attrs("a", "b"), Link: "to"}}
	b := put(t, file("a", []byte("abc")), m)
	heads := 0
	for at := 0; at < len(b)-end; at += 512 {
		if string(b[at+257:at+265]) != "ustar\x0000" {
			continue
		}
		heads++
		for k := at; k < at+512; k++ {
			if k-at >= 148 && k-at < 156 {
				continue
			}
			was := b[k]
			for by := 1; by < 256; by += 6 {
				b[k] = was ^ byte(by)
				if l, e := ours.Get(b); len(l) != 0 || e != api.ErrSum && (e != api.ErrForm || k-at < 257 || k-at >= 263) {
					t.Errorf("byte %d of the header at %d, %d, changed by %d: %d Members, %d", k-at, at, was, by, len(l), e)
				}
			}
			b[k] = was
		}
	}
	if heads != 3 {
		t.Error(heads)
	}
}

// P12.3: what is told is new memory.
func TestGetNewMemory(t *testing.T) {
	b := put(t, file("a", []byte("abc")), withAttrs(attrs("a", "b")), file("c", []byte("def")))
	l, e := ours.Get(b)
	if e != api.OK || len(l) != 3 {
		t.Fatal(len(l), e)
	}
	was := string(b)
	first := l[0].Node.Data
	for k := range first[:cap(first)] {
		first[:cap(first)][k] = 'x'
	}
	if string(b) != was || string(l[2].Node.Data) != "def" {
		t.Error("Data is memory of the tar")
	}
	again, _ := ours.Get(b)
	clear(b)
	if told(again[0]) != told(file("a", []byte("abc"))) || told(again[1]) != told(withAttrs(attrs("a", "b"))) {
		t.Error(allTold(again))
	}
}

// P12.3: any bytes have an answer.
func TestAnyBytes(t *testing.T) {
	random := rand.New(rand.NewSource(126))
	for range 2000 {
		s := string(someBytes(random, random.Intn(2000)))
		want, e := plainGet(s)
		gets(t, s, want, e)
		if e == api.OK {
			t.Error(short(s))
		}
	}
	gets(t, "", nil, api.ErrShort)
}

// P12.3: Get reads what the library lays.
func TestLibraryLays(t *testing.T) {
	random := rand.New(rand.NewSource(127))
	for range 1000 {
		l := anyMembers(random, 6)
		var want []api.Member
		var out bytes.Buffer
		w := tar.NewWriter(&out)
		for _, m := range l {
			n := m.Node
			m.Node.Time = n.Time >> 20
			if n.Time < 0 && random.Intn(2) == 0 {
				m.Node.Time = -m.Node.Time
			}
			h := tar.Header{Typeflag: types[n.Kind][0], Name: m.Path, Linkname: n.Link, Size: int64(len(n.Data)), Mode: int64(n.Mode), Uid: int(n.Uid), Gid: int(n.Gid), ModTime: time.Unix(m.Node.Time, 0), PAXRecords: map[string]string{}}
			for _, a := range n.Attrs {
				h.PAXRecords["SCHILY.xattr."+a.Name] = a.Value
			}
			if w.WriteHeader(&h) != nil {
				continue
			}
			w.Write(n.Data)
			want = append(want, m)
		}
		w.Close()
		gets(t, out.String(), want, api.OK)
	}
}
