package tar_test

import (
	"bytes"
	"fmt"
	"math/rand"
	"slices"
	"strconv"
	"strings"
	"testing"

	"portolan/api"
	"portolan/path"
	"portolan/pax"
	"portolan/tar"
)

// The chapter read in the plainest way: headers are texts that are put together, and read by their bytes' places.

// places are those of the chapter of fields.
var places = map[string][2]int{
	"name": {0, 100}, "mode": {100, 8}, "uid": {108, 8}, "gid": {116, 8}, "size": {124, 12}, "mtime": {136, 12},
	"chksum": {148, 8}, "type": {156, 1}, "linkname": {157, 100}, "magic": {257, 6}, "version": {263, 2},
	"uname": {265, 32}, "gname": {297, 32}, "devmajor": {329, 8}, "devminor": {337, 8}, "prefix": {345, 155},
}

// types are those of the kinds.
var types = map[int]string{api.File: "0", api.Symlink: "2", api.Dir: "5", api.Fifo: "6"}

const end = 1024

func zeros(many int) string { return strings.Repeat("\x00", many) }

// padded is a text with bytes 0 up to the next block.
func padded(s string) string {
	if left := len(s) % 512; left != 0 {
		return s + zeros(512-left)
	}
	return s
}

func octal(n int64, many int) string { return fmt.Sprintf("%0*o\x00", many-1, n) }

// wide is a number in base 256.
func wide(n int64, many int) string {
	b := make([]byte, many)
	for k := range b {
		b[k] = byte(n >> min(63, 8*(many-1-k)))
	}
	b[0] |= 128
	return string(b)
}

func plainSum(b []byte) int64 {
	var sum int64
	for at, x := range b {
		if at >= 148 && at < 156 {
			x = ' '
		}
		sum += int64(x)
	}
	return sum
}

// block is a header of an empty File a, but for what is told: fields, each with its bytes behind it; chksum is laid, if it is not told.
func block(fields ...string) string {
	b := make([]byte, 512)
	sealed := false
	usual := []string{"name", "a", "mode", octal(0, 8), "uid", octal(0, 8), "gid", octal(0, 8), "size", octal(0, 12), "mtime", octal(0, 12), "type", "0", "magic", "ustar\x00", "version", "00"}
	all := append(usual, fields...)
	for k := 0; k < len(all); k += 2 {
		place := places[all[k]]
		part := b[place[0] : place[0]+place[1]]
		clear(part)
		if copy(part, all[k+1]) != len(all[k+1]) {
			panic(all[k])
		}
		sealed = sealed || all[k] == "chksum"
	}
	if !sealed {
		copy(b[148:], fmt.Sprintf("%06o\x00 ", plainSum(b)))
	}
	return string(b)
}

func plainRecord(key, value string) string {
	body := " " + key + "=" + value + "\n"
	for size := len(body); ; size++ {
		if len(strconv.Itoa(size))+len(body) == size {
			return strconv.Itoa(size) + body
		}
	}
}

// x is an entry of records: keys, each with its value behind it.
func x(records ...string) string {
	var texts strings.Builder
	for k := 0; k < len(records); k += 2 {
		texts.WriteString(plainRecord(records[k], records[k+1]))
	}
	return xOf(texts.String())
}

// xOf is an entry of these texts of records.
func xOf(texts string) string {
	return block("name", "pax", "type", "x", "size", octal(int64(len(texts)), 12)) + padded(texts)
}

// plainParts is the name and the prefix of a long name; false, if it fits neither way.
func plainParts(long string) (name, prefix string, fits bool) {
	if len(long) <= 100 {
		return long, "", true
	}
	name = "pax"
	for at := range len(long) - 1 {
		if long[at] == '/' && at <= 155 && len(long)-at-1 <= 100 {
			name, prefix, fits = long[at+1:], long[:at], true
		}
	}
	return name, prefix, fits
}

func plainHead(m api.Member) string {
	n := m.Node
	long := m.Path
	if n.Kind == api.Dir {
		long += "/"
	}
	var records []string
	name, prefix, fits := plainParts(long)
	if !fits {
		records = append(records, "path", long)
	}
	fields := []string{"name", name, "prefix", prefix, "type", types[n.Kind], "mode", octal(int64(n.Mode), 8), "size", octal(int64(len(n.Data)), 12)}
	if len(n.Link) > 100 {
		records = append(records, "linkpath", n.Link)
	} else {
		fields = append(fields, "linkname", n.Link)
	}
	for _, l := range []struct {
		name string
		n    int64
		most int64
		many int
	}{{"uid", int64(n.Uid), 2097151, 8}, {"gid", int64(n.Gid), 2097151, 8}, {"mtime", n.Time, 8589934591, 12}} {
		if l.n < 0 || l.n > l.most {
			records = append(records, l.name, strconv.FormatInt(l.n, 10))
		} else {
			fields = append(fields, l.name, octal(l.n, l.many))
		}
	}
	for _, a := range n.Attrs {
		records = append(records, "SCHILY.xattr."+a.Name, a.Value)
	}
	if len(records) == 0 {
		return block(fields...)
	}
	return x(records...) + block(fields...)
}

func plainPut(l []api.Member) string {
	var all strings.Builder
	for _, m := range l {
		all.WriteString(plainHead(m))
		all.WriteString(padded(string(m.Node.Data)))
	}
	return all.String() + zeros(end)
}

// plainReader reads the chapter's steps one by one: each tells its error, or OK.
type plainReader struct {
	b       string
	waits   bool
	records []pax.Record
	l       []api.Member
}

func plainGet(s string) ([]api.Member, api.Errno) {
	r := plainReader{b: s}
	for {
		done, e := r.next()
		if e != api.OK {
			return nil, e
		}
		if done {
			return r.l, api.OK
		}
	}
}

// next reads a block and what belongs to it.
func (r *plainReader) next() (done bool, e api.Errno) {
	if len(r.b) < 512 {
		return false, api.ErrShort
	}
	head := r.b[:512]
	r.b = r.b[512:]
	if head == zeros(512) {
		switch {
		case len(r.b) < 512:
			return false, api.ErrShort
		case r.b[:512] != zeros(512), r.waits:
			return false, api.ErrForm
		}
		return true, api.OK
	}
	if e := plainCheck(head); e != api.OK {
		return false, e
	}
	switch head[156] {
	case '0', 0:
		return false, r.entry(head, api.File)
	case '2':
		return false, r.entry(head, api.Symlink)
	case '5':
		return false, r.entry(head, api.Dir)
	case '6':
		return false, r.entry(head, api.Fifo)
	case 'x':
		return false, r.x(head)
	}
	return false, api.ErrKind
}

func plainCheck(head string) api.Errno {
	sum, e := plainField(head, "chksum")
	if e != api.OK || head[257:263] != "ustar\x00" && head[257:263] != "ustar " {
		return api.ErrForm
	}
	if sum != plainSum([]byte(head)) {
		return api.ErrSum
	}
	return api.OK
}

func plainBytes(head, name string) string {
	return head[places[name][0]:][:places[name][1]]
}

// plainField is a field's number, in base 256 or octal.
func plainField(head, name string) (int64, api.Errno) {
	s := plainBytes(head, name)
	if s[0] < 128 {
		s, _, _ = strings.Cut(strings.TrimLeft(s, " "), " ")
		s, _, _ = strings.Cut(s, "\x00")
		if strings.Trim(s, "01234567") != "" {
			return 0, api.ErrForm
		}
		n, _ := strconv.ParseInt("0"+s, 8, 64)
		return n, api.OK
	}
	n := int64(s[0] & 127)
	if n > 63 {
		n -= 128
	}
	for _, c := range []byte(s[1:]) {
		if n > 1<<55-1 || n < -1<<55 {
			return 0, api.ErrLong
		}
		n = n*256 + int64(c)
	}
	return n, api.OK
}

// number is that of a record or a field, from 0 to most.
func (r *plainReader) number(head, name string, least, most int64) (int64, api.Errno) {
	n, e := plainField(head, name)
	for _, l := range r.records {
		if l.Key == name && name != "mode" {
			var is bool
			n, is = pax.Number(l.Value)
			e = api.OK
			if !is {
				e = api.ErrForm
			}
		}
	}
	if e == api.OK && (n < least || n > most) {
		e = api.ErrForm
	}
	return n, e
}

// taken takes so many bytes, and what pads them.
func (r *plainReader) taken(size int64) (string, api.Errno) {
	if size > api.MaxBlob {
		return "", api.ErrLong
	}
	blocks := (size + 511) / 512
	if int64(len(r.b)) < 512*blocks {
		return "", api.ErrShort
	}
	s := r.b[:size]
	r.b = r.b[512*blocks:]
	return s, api.OK
}

func (r *plainReader) x(head string) api.Errno {
	size, e := plainField(head, "size")
	switch {
	case e != api.OK:
		return e
	case size < 0:
		return api.ErrForm
	case size > api.MaxBlob:
		return api.ErrLong
	case r.waits:
		return api.ErrForm
	}
	texts, e := r.taken(size)
	if e != api.OK {
		return e
	}
	r.waits = true
	r.records, e = pax.Get([]byte(texts))
	if e != api.OK {
		return api.ErrForm
	}
	return api.OK
}

const most64 = 1<<63 - 1

func (r *plainReader) entry(head string, kind int) api.Errno {
	mode, e := r.number(head, "mode", 0, most64)
	if e != api.OK {
		return e
	}
	uid, e := r.number(head, "uid", 0, 1<<32-1)
	if e != api.OK {
		return e
	}
	gid, e := r.number(head, "gid", 0, 1<<32-1)
	if e != api.OK {
		return e
	}
	size, e := r.number(head, "size", 0, most64)
	if e != api.OK {
		return e
	}
	if size > api.MaxBlob {
		return api.ErrLong
	}
	mtime, e := r.number(head, "mtime", -1<<63, most64)
	if e != api.OK {
		return e
	}
	data, e := r.taken(size)
	if e != api.OK {
		return e
	}
	n := api.Node{Kind: kind, Mode: uint32(mode % 4096), Uid: uint32(uid), Gid: uint32(gid), Time: mtime}
	if kind == api.File {
		n.Data = []byte(data)
	}
	p, e := r.named(head, &n)
	r.waits, r.records = false, nil
	if e != api.OK || p == "" {
		return e
	}
	r.l = append(r.l, api.Member{Path: p, Node: n})
	if len(r.l) > api.MaxFiles {
		return api.ErrLimit
	}
	return api.OK
}

// named reads the path, the link and the attributes.
func (r *plainReader) named(head string, n *api.Node) (string, api.Errno) {
	text := func(name string) string {
		s, _, _ := strings.Cut(plainBytes(head, name), "\x00")
		return s
	}
	raw := text("name")
	if text("prefix") != "" {
		raw = text("prefix") + "/" + raw
	}
	link := text("linkname")
	attrs := map[string]string{}
	for _, l := range r.records {
		switch {
		case l.Key == "path":
			raw = l.Value
		case l.Key == "linkpath":
			link = l.Value
		case len(l.Key) > 13 && l.Key[:13] == "SCHILY.xattr.":
			attrs[l.Key[13:]] = l.Value
		}
	}
	p, e := path.Clean(raw)
	class, _ := path.Class(p)
	switch {
	case e != api.OK:
		return "", e
	case p == "" && n.Kind == api.Dir:
		return "", api.OK
	case p == "":
		return "", api.ErrPath
	case class == 0:
		return "", api.ErrReserved
	}
	if n.Kind == api.Symlink {
		n.Link = link
		if link == "" || strings.Contains(link, "\x00") {
			return "", api.ErrForm
		}
		if len(link) > 4096 {
			return "", api.ErrLong
		}
	}
	if len(attrs) > 16 {
		return "", api.ErrLimit
	}
	for name, value := range attrs {
		n.Attrs = append(n.Attrs, api.Attr{Name: name, Value: value})
	}
	slices.SortFunc(n.Attrs, func(a, b api.Attr) int { return strings.Compare(a.Name, b.Name) })
	return p, api.OK
}

// told is a Member for whoever reads a failed test, and all that it is: two of one text are the same.
func told(m api.Member) string {
	n := m.Node
	return fmt.Sprintf("%q %d %o %d %d %d %q %q %q", m.Path, n.Kind, n.Mode, n.Uid, n.Gid, n.Time, n.Attrs, n.Data, n.Link)
}

func allTold(l []api.Member) []string {
	var all []string
	for _, m := range l {
		all = append(all, told(m))
	}
	return all
}

// short is a text for whoever reads a failed test: it may be long.
func short(s string) string { return fmt.Sprintf("%.200q (%d bytes)", s, len(s)) }

// gets holds Get against what is wanted of it, and what it is given against what that was.
func gets(t *testing.T, s string, want []api.Member, wantError api.Errno) {
	t.Helper()
	b := []byte(s)
	l, e := tar.Get(b)
	if e != wantError || !slices.Equal(allTold(l), allTold(want)) {
		t.Errorf("get of %s: %s, %d; not %s, %d", short(s), short(fmt.Sprint(allTold(l))), e, short(fmt.Sprint(allTold(want))), wantError)
	}
	if string(b) != s {
		t.Errorf("get of %s: changed", short(s))
	}
}

// puts holds Put, and Head of each Member, against the bytes that are wanted.
func puts(t *testing.T, l []api.Member, want string) {
	t.Helper()
	was := allTold(l)
	b, e := tar.Put(l...)
	if string(b) != want || e != api.OK {
		t.Errorf("put of %s: %s, %d; not %s", short(fmt.Sprint(was)), short(string(b)), e, short(want))
	}
	for _, m := range l {
		if h, e := tar.Head(m); string(h) != plainHead(m) || e != api.OK {
			t.Errorf("head of %s: %s, %d", short(told(m)), short(string(h)), e)
		}
	}
	if !slices.Equal(allTold(l), was) {
		t.Errorf("put of %s: changed", short(fmt.Sprint(was)))
	}
}

func refusesPut(t *testing.T, l []api.Member, want api.Errno) {
	t.Helper()
	if b, e := tar.Put(l...); len(b) != 0 || e != want {
		t.Errorf("put of %d Members: %d bytes, %d; not %d", len(l), len(b), e, want)
	}
}

func someBytes(random *rand.Rand, many int) []byte {
	b := make([]byte, many)
	random.Read(b)
	return b
}

// someText is a text of so many bytes, none of them 0, a slash, = or a newline.
func someText(random *rand.Rand, many int) string {
	b := someBytes(random, many)
	for k, c := range b {
		if bytes.IndexByte([]byte("\x00/=\n"), c) >= 0 {
			b[k] = 'z'
		}
	}
	return string(b)
}

// anyPath is a changeset's path: now short, now at an edge of what fits into a header.
func anyPath(random *rand.Rand) string {
	var names []string
	for range random.Intn(4) {
		names = append(names, "n"+someText(random, random.Intn([]int{4, 60, 250}[random.Intn(3)])))
	}
	dir := strings.Join(names, "/")
	switch random.Intn(12) {
	case 0:
		return path.Opaque(dir)
	case 1:
		return ".wh..wh.toc"
	case 2, 3:
		return path.Whiteout(path.Join(dir, "w"+someText(random, random.Intn(100))))
	}
	return path.Join(dir, "p"+someText(random, random.Intn([]int{4, 130, 250}[random.Intn(3)])))
}

// anyMember is a Member that may be in a tar.
func anyMember(random *rand.Rand) api.Member {
	n := api.Node{Kind: 1 + random.Intn(4), Mode: uint32(random.Intn(4096))}
	n.Uid = []uint32{0, 1000, 2097151, 2097152, 1<<32 - 1, random.Uint32()}[random.Intn(6)]
	n.Gid = []uint32{0, 1000, 2097151, 2097152, 1<<32 - 1, random.Uint32()}[random.Intn(6)]
	n.Time = []int64{0, 1700000000, 8589934591, 8589934592, -1, -1 << 63, 1<<63 - 1, int64(random.Uint64())}[random.Intn(8)]
	if random.Intn(3) == 0 {
		names := map[string]bool{}
		for range random.Intn(17) {
			names[someText(random, 1+random.Intn([]int{3, 242}[random.Intn(2)]))] = true
		}
		for name := range names {
			n.Attrs = append(n.Attrs, api.Attr{Name: name})
		}
		slices.SortFunc(n.Attrs, func(a, b api.Attr) int { return strings.Compare(a.Name, b.Name) })
		for k := range n.Attrs {
			n.Attrs[k].Value = string(someBytes(random, random.Intn([]int{1, 10, 600}[random.Intn(3)])))
		}
	}
	switch n.Kind {
	case api.File:
		n.Data = someBytes(random, []int{0, 1, 511, 512, 513, random.Intn(3000)}[random.Intn(6)])
	case api.Symlink:
		n.Link = strings.ReplaceAll(someText(random, []int{1, 99, 100, 101, 4096, 1 + random.Intn(300)}[random.Intn(6)]), "z", "/")
	}
	return api.Member{Path: anyPath(random), Node: n}
}

func anyMembers(random *rand.Rand, most int) []api.Member {
	l := make([]api.Member, random.Intn(most+1))
	for k := range l {
		l[k] = anyMember(random)
	}
	return l
}
