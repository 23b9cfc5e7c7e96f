package field_test

import (
	"archive/tar"
	"bytes"
	"fmt"
	"math/rand"
	"strings"
	"testing"
	"time"

	"portolan/api"
	"portolan/field"
)

type place struct {
	name     string
	at, many int
}

// all is the chapter's list.
var all = []place{
	{"name", 0, 100}, {"mode", 100, 8}, {"uid", 108, 8}, {"gid", 116, 8}, {"size", 124, 12}, {"mtime", 136, 12},
	{"chksum", 148, 8}, {"type", 156, 1}, {"linkname", 157, 100}, {"magic", 257, 6}, {"version", 263, 2},
	{"uname", 265, 32}, {"gname", 297, 32}, {"devmajor", 329, 8}, {"devminor", 337, 8}, {"prefix", 345, 155},
}

// strange are names of no field.
var strange = []string{"", " ", "Name", "NAME", "names", "nam", "name ", "name\x00", "checksum", "typeflag", "padding", "pad", "path", "512", "\xff"}

// anyBlock is a block of any bytes.
func anyBlock(random *rand.Rand) field.Block {
	var b field.Block
	random.Read(b[:])
	return b
}

// ustar is a block of any bytes, but with a magic that may be, sealed.
func ustar(random *rand.Rand) field.Block {
	b := anyBlock(random)
	copy(b[257:], []string{"ustar\x00", "ustar "}[random.Intn(2)])
	b.Seal()
	return b
}

// plainSum is the chapter's rule, place by place.
func plainSum(b field.Block) int64 {
	var sum int64
	for at, x := range b {
		if at >= 148 && at < 156 {
			x = 32
		}
		sum += int64(x)
	}
	return sum
}

func checks(t *testing.T, what string, b field.Block, want api.Errno) {
	t.Helper()
	was := b
	if e := b.Check(); e != want {
		t.Errorf("%s: %d, not %d", what, e, want)
	}
	if b != was {
		t.Errorf("%s: changed", what)
	}
}

// P9.3: a block has 512 bytes.
func TestSize(t *testing.T) {
	if field.Size != 512 || len(field.Block{}) != 512 {
		t.Error(field.Size)
	}
}

// P9.3: every field's bytes, as new memory.
func TestField(t *testing.T) {
	b := anyBlock(rand.New(rand.NewSource(94)))
	was := b
	for _, p := range all {
		got, there := b.Field(p.name)
		if !there || !bytes.Equal(got, was[p.at:p.at+p.many]) {
			t.Errorf("%s: %d bytes, %t", p.name, len(got), there)
		}
		got = got[:cap(got)]
		for k := range got {
			got[k]++
		}
		if b != was {
			t.Errorf("%s: the answer is the block's memory", p.name)
		}
	}
	for _, name := range strange {
		if got, there := b.Field(name); there || len(got) != 0 {
			t.Errorf("%q: %d bytes, %t", name, len(got), there)
		}
	}
}

// P9.3: what is set stands in the field, and nothing else is changed.
func TestSet(t *testing.T) {
	random := rand.New(rand.NewSource(95))
	for _, p := range all {
		b := anyBlock(random)
		want := b
		v := make([]byte, p.many, p.many+10)
		random.Read(v)
		given := bytes.Clone(v)
		copy(want[p.at:p.at+p.many], v)
		if e := b.Set(p.name, v); e != api.OK || b != want {
			t.Errorf("%s: %d", p.name, e)
		}
		if !bytes.Equal(v, given) {
			t.Errorf("%s: what was handed in is changed", p.name)
		}
		clear(v)
		if b != want {
			t.Errorf("%s: what was handed in is kept", p.name)
		}
		if got, there := b.Field(p.name); !there || !bytes.Equal(got, given) {
			t.Errorf("%s: %q, %t", p.name, got, there)
		}
	}
}

// P9.3: fields that there are not, and other lengths than theirs, are ErrArg, and nothing is changed.
func TestWrongSets(t *testing.T) {
	b := anyBlock(rand.New(rand.NewSource(96)))
	was := b
	for _, p := range all {
		for _, size := range []int{0, 1, p.many - 1, p.many + 1, 100, 512} {
			if size == p.many {
				continue
			}
			if e := b.Set(p.name, make([]byte, size)); e != api.ErrArg {
				t.Errorf("%s of %d bytes: %d", p.name, size, e)
			}
		}
		if e := b.Set(p.name, nil); e != api.ErrArg {
			t.Errorf("%s of nothing: %d", p.name, e)
		}
	}
	for _, name := range strange {
		for _, size := range []int{0, 1, 8, 12, 100, 512} {
			if e := b.Set(name, make([]byte, size)); e != api.ErrArg {
				t.Errorf("%q of %d bytes: %d", name, size, e)
			}
		}
	}
	if b != was {
		t.Error("changed")
	}
}

// P9.3: a field may be set to bytes of the block itself.
func TestSetOfOwnBytes(t *testing.T) {
	b := anyBlock(rand.New(rand.NewSource(97)))
	want := b
	copy(want[0:100], bytes.Clone(b[50:150]))
	if e := b.Set("name", b[50:150]); e != api.OK || b != want {
		t.Error(e)
	}
}

// P9.3: the sum of all bytes, of chksum's as blanks, whatever they are.
func TestSum(t *testing.T) {
	var b field.Block
	if got := b.Sum(); got != 8*32 {
		t.Errorf("no bytes: %d", got)
	}
	for k := range b {
		b[k] = 255
	}
	if got := b.Sum(); got != 504*255+8*32 {
		t.Errorf("the greatest: %d", got)
	}
	for at := range b {
		one := field.Block{}
		one[at] = 200
		was := one
		if got := one.Sum(); got != plainSum(one) || one != was {
			t.Errorf("a byte at %d: %d", at, got)
		}
	}
	random := rand.New(rand.NewSource(98))
	for range 200 {
		b := anyBlock(random)
		if got := b.Sum(); got != plainSum(b) {
			t.Errorf("%d, not %d", got, plainSum(b))
		}
	}
}

// P9.3: Seal lays six octal digits, a byte 0 and a blank, and nothing else.
func TestSeal(t *testing.T) {
	random := rand.New(rand.NewSource(99))
	var full field.Block
	for k := range full {
		full[k] = 255
	}
	blocks := []field.Block{{}, full}
	for range 200 {
		blocks = append(blocks, anyBlock(random))
	}
	for _, b := range blocks {
		want := b
		copy(want[148:156], fmt.Sprintf("%06o\x00 ", plainSum(b)))
		for range 2 {
			if b.Seal(); b != want {
				t.Errorf("%q, not %q", b[148:156], want[148:156])
			}
		}
	}
}

// P9.3: blocks that check, by both magics and all ways to write the sum.
func TestCheck(t *testing.T) {
	random := rand.New(rand.NewSource(100))
	for range 100 {
		b := ustar(random)
		checks(t, "sealed", b, api.OK)
		sum := plainSum(b)
		wide, _ := field.Wide(sum, 8)
		for _, chksum := range []string{"%06o\x00 ", "%06o \x00", "%07o\x00", "%8o", "%08o", "%6o  ", "%06o\x00\xff", "  %06o"} {
			copy(b[148:156], fmt.Sprintf(chksum, sum))
			checks(t, chksum, b, api.OK)
		}
		copy(b[148:156], wide)
		checks(t, "in base 256", b, api.OK)
	}
}

// P9.3: a chksum that is no number is ErrForm, ahead of all else.
func TestCheckOfNoNumber(t *testing.T) {
	random := rand.New(rand.NewSource(101))
	for range 20 {
		b := ustar(random)
		for _, chksum := range []string{"00000008", "x0000000", "012345x ", "-0000001", "0012\xff   ", "\t       ", "0000000\n"} {
			copy(b[148:156], chksum)
			checks(t, chksum, b, api.ErrForm)
		}
	}
}

// P9.3: other magics are ErrForm, though the sum is right, and where it is not, too.
func TestCheckOfOtherMagics(t *testing.T) {
	random := rand.New(rand.NewSource(102))
	for _, magic := range []string{"\x00\x00\x00\x00\x00\x00", "ustar\x01", "ustar0", "USTAR\x00", "Ustar\x00", "usta\x00\x00", "ustas\x00", " ustar", "tar\x00\x00\x00", "\xf5star\x00", "ustar\x80"} {
		b := ustar(random)
		copy(b[257:263], magic)
		checks(t, magic, b, api.ErrForm)
		b.Seal()
		checks(t, magic+", sealed", b, api.ErrForm)
	}
	checks(t, "bytes 0", field.Block{}, api.ErrForm)
}

// P9.3: a number that is not the sum is ErrSum.
func TestCheckOfOtherSums(t *testing.T) {
	random := rand.New(rand.NewSource(103))
	for range 100 {
		b := ustar(random)
		for _, off := range []int64{-1, 1, 8, -8, 256, 32, 64} {
			copy(b[148:156], fmt.Sprintf("%06o\x00 ", plainSum(b)+off))
			checks(t, "off", b, api.ErrSum)
		}
		for _, n := range []int64{0, -1, -plainSum(b), plainSum(b) + 1<<32, plainSum(b) + 1<<16, 1<<62 - 1} {
			wide, _ := field.Wide(n, 8)
			copy(b[148:156], wide)
			checks(t, "off, in base 256", b, api.ErrSum)
		}
		for _, chksum := range []string{"        ", "\x00\x00\x00\x00\x00\x00\x00\x00", "77777777"} {
			copy(b[148:156], chksum)
			checks(t, chksum, b, api.ErrSum)
		}
	}
}

// P9.4: a sealed block with another byte in one place outside of chksum does not check: each place, and each byte.
func TestOneByteChanged(t *testing.T) {
	random := rand.New(rand.NewSource(104))
	for _, magic := range []string{"ustar\x00", "ustar "} {
		b := anyBlock(random)
		copy(b[257:], magic)
		b.Seal()
		checks(t, magic, b, api.OK)
		for at := range b {
			if at >= 148 && at < 156 {
				continue
			}
			for x := 1; x < 256; x++ {
				changed := b
				changed[at] ^= byte(x)
				if e := changed.Check(); e != api.ErrSum && (e != api.ErrForm || at < 257 || at > 262) {
					t.Errorf("byte %d changed by %d: %d", at, x, e)
				}
			}
		}
	}
}

// P9.3: whether all bytes are 0.
func TestZero(t *testing.T) {
	var b field.Block
	if !b.Zero() {
		t.Error("bytes 0")
	}
	for at := range b {
		for _, x := range []byte{1, ' ', '0', 128, 255} {
			b[at] = x
			if b.Zero() {
				t.Errorf("byte %d is %d", at, x)
			}
		}
		b[at] = 0
	}
	if !b.Zero() {
		t.Error("bytes 0 again")
	}
}

// P9.3: a block that is none.
func TestNoBlock(t *testing.T) {
	var none *field.Block
	for _, p := range all {
		if got, there := none.Field(p.name); there || len(got) != 0 {
			t.Errorf("%s: %d bytes, %t", p.name, len(got), there)
		}
		if e := none.Set(p.name, make([]byte, p.many)); e != api.ErrArg {
			t.Errorf("set %s: %d", p.name, e)
		}
	}
	if got, there := none.Field(""); there || len(got) != 0 {
		t.Error(got, there)
	}
	if e := none.Set("", nil); e != api.ErrArg {
		t.Error(e)
	}
	none.Seal()
	if got := none.Sum(); got != 0 {
		t.Errorf("sum: %d", got)
	}
	if e := none.Check(); e != api.ErrArg {
		t.Errorf("check: %d", e)
	}
	if none.Zero() {
		t.Error("zero")
	}
}

// P9.3, P9.4: the library reads a block whose fields are laid one by one.
func TestLibraryReads(t *testing.T) {
	var b field.Block
	set := func(name string, v []byte, e api.Errno) {
		t.Helper()
		if e != api.OK || b.Set(name, v) != api.OK {
			t.Errorf("%s: %q, %d", name, v, e)
		}
	}
	setText := func(name, s string, many int) {
		t.Helper()
		v, e := field.Text(s, many)
		set(name, v, e)
	}
	setNumber := func(name string, lay func(int64, int) ([]byte, api.Errno), n int64, many int) {
		t.Helper()
		v, e := lay(n, many)
		set(name, v, e)
	}
	setText("name", "some/name", 100)
	setNumber("mode", field.Octal, 0o4751, 8)
	setNumber("uid", field.Octal, 1234, 8)
	setNumber("gid", field.Wide, 1<<40, 8)
	setNumber("size", field.Octal, 0, 12)
	setNumber("mtime", field.Wide, -77, 12)
	setText("type", "2", 1)
	setText("linkname", strings.Repeat("l", 100), 100)
	setText("magic", "ustar", 6)
	setText("version", "00", 2)
	setText("uname", "someone", 32)
	setText("gname", "some", 32)
	setNumber("devmajor", field.Octal, 0, 8)
	setNumber("devminor", field.Octal, 0, 8)
	setText("prefix", "a/prefix", 155)
	b.Seal()
	checks(t, "laid", b, api.OK)
	h, err := tar.NewReader(bytes.NewReader(append(b[:], make([]byte, 1024)...))).Next()
	if err != nil {
		t.Fatal(err)
	}
	if h.Name != "a/prefix/some/name" || h.Mode != 0o4751 || h.Uid != 1234 || h.Gid != 1<<40 || h.ModTime.Unix() != -77 ||
		h.Typeflag != '2' || h.Linkname != strings.Repeat("l", 100) || h.Uname != "someone" || h.Gname != "some" {
		t.Errorf("%+v", h)
	}
}

// P9.3, P9.4: blocks that the library lays check, and their fields are told.
func TestReadsLibrary(t *testing.T) {
	random := rand.New(rand.NewSource(105))
	for k := range 200 {
		h := tar.Header{
			Typeflag: tar.TypeReg, Format: tar.FormatUSTAR, Name: strings.Repeat("n", 1+random.Intn(100)), Uname: "someone",
			Mode: random.Int63n(0o10000), Uid: random.Intn(1 << 21), Gid: random.Intn(1 << 21), Size: random.Int63n(1 << 33), ModTime: time.Unix(random.Int63n(1<<33), 0),
		}
		if k%2 == 0 { // numbers that only base 256 holds
			h.Format, h.Uid, h.ModTime = tar.FormatGNU, 1<<21+random.Intn(1<<40), time.Unix(-1-random.Int63n(1<<40), 0)
		}
		var out bytes.Buffer
		if err := tar.NewWriter(&out).WriteHeader(&h); err != nil {
			t.Fatal(err)
		}
		var b field.Block
		copy(b[:], out.Bytes())
		checks(t, "the library's", b, api.OK)
		for name, want := range map[string]int64{"mode": h.Mode, "uid": int64(h.Uid), "gid": int64(h.Gid), "size": h.Size, "mtime": h.ModTime.Unix()} {
			v, _ := b.Field(name)
			reads(t, v, want, api.OK)
		}
		for name, want := range map[string]string{"name": h.Name, "uname": "someone", "gname": "", "type": "0"} {
			if v, _ := b.Field(name); field.String(v) != want {
				t.Errorf("%s: %q", name, v)
			}
		}
	}
}
