package sha_test

import (
	"bytes"
	"crypto/sha256"
	"encoding/hex"
	"math/rand"
	"slices"
	"strings"
	"testing"

	"portolan/api"
	"portolan/sha"
)

const (
	nothingName = "sha256:e3b0c44298fc1c149afbf4c8996fb92427ae41e4649b934ca495991b7852b855"
	abcName     = "sha256:ba7816bf8f01cfea414140de5dae2223b00361a396177a9cb410ff61f20015ad"
)

// someBytes tells n bytes, no two neighbours or blocks alike; the same at every run.
func someBytes(n int) []byte {
	r := rand.New(rand.NewSource(int64(n) + 1))
	b := make([]byte, n)
	for i := range b {
		b[i] = byte(r.Intn(256))
	}
	return b
}

// known is the digest as another program tells it.
func known(b []byte) api.Digest { return sha256.Sum256(b) }

func write(t *testing.T, s *sha.State, b []byte) {
	t.Helper()
	if e := s.Write(b); e != api.OK {
		t.Fatalf("Write of %d bytes: %d", len(b), e)
	}
}

// P1.1: the chapter's examples, and those of FIPS 180-4.
func TestSumOfExamples(t *testing.T) {
	cases := []struct{ text, name string }{
		{"", nothingName},
		{"abc", abcName},
		{"abcdbcdecdefdefgefghfghighijhijkijkljklmklmnlmnomnopnopq",
			"sha256:248d6a61d20638b8e5c026930c3e6039a33ce45964ff2167f6ecedd419db06c1"},
		{"abcdefghbcdefghicdefghijdefghijkefghijklfghijklmghijklmnhijklmnoijklmnopjklmnopqklmnopqrlmnopqrsmnopqrstnopqrstu",
			"sha256:cf5b16a778af8380036ce59e7b0492370b249b11e8f07a51afac45037afee9d1"},
		{strings.Repeat("a", 1000000),
			"sha256:cdc76e5c9914fb9281a1c7e284d73e67f1809a48a497200e046d39ccc7112cd0"},
	}
	for _, c := range cases {
		if got := sha.Name(sha.Sum([]byte(c.text))); got != c.name {
			t.Errorf("%.40q: %s, want %s", c.text, got, c.name)
		}
	}
	if sha.Sum(nil) != sha.Sum([]byte{}) {
		t.Error("nil and empty differ")
	}
}

// P1.1: every length up to and over the ends of several blocks.
func TestSumOfEveryLength(t *testing.T) {
	b := someBytes(400)
	for n := range len(b) + 1 {
		if sha.Sum(b[:n]) != known(b[:n]) {
			t.Errorf("%d bytes", n)
		}
	}
}

// P1.1: a count of bits that needs more than three of its eight bytes.
func TestSumOfManyBytes(t *testing.T) {
	b := someBytes(1<<21 + 5)
	if sha.Sum(b) != known(b) {
		t.Error("wrong digest")
	}
}

// P1.1: parts, empty ones too.
func TestAll(t *testing.T) {
	b := someBytes(200)
	cases := []struct {
		parts [][]byte
		whole []byte
	}{
		{nil, nil},
		{[][]byte{}, nil},
		{[][]byte{nil}, nil},
		{[][]byte{nil, {}, nil}, nil},
		{[][]byte{b}, b},
		{[][]byte{b[:1], b[1:]}, b},
		{[][]byte{nil, b[:63], {}, b[63:64], nil, b[64:65], b[65:], nil}, b},
		{[][]byte{b[:64], b[64:128], b[128:192], b[192:]}, b},
		{[][]byte{b[100:], b[:100]}, append(bytes.Clone(b[100:]), b[:100]...)},
	}
	for i, c := range cases {
		if sha.All(c.parts...) != known(c.whole) {
			t.Errorf("case %d", i)
		}
	}
	if sha.All() != sha.Sum(nil) {
		t.Error("no parts are not as no bytes")
	}
}

// P1.2: a new state has taken nothing; each Write comes behind what was taken.
func TestStateTakesBytes(t *testing.T) {
	b := someBytes(300)
	s := sha.New()
	if s == nil || s.Len() != 0 || s.Sum() != known(nil) {
		t.Fatal("a new state has taken something")
	}
	for i := range b {
		write(t, s, b[i:i+1])
		if s.Len() != uint64(i+1) {
			t.Errorf("Len is %d behind %d bytes", s.Len(), i+1)
		}
		if s.Sum() != known(b[:i+1]) {
			t.Errorf("wrong sum behind %d bytes", i+1)
		}
	}
	write(t, s, nil)
	write(t, s, []byte{})
	if s.Len() != 300 || s.Sum() != known(b) {
		t.Error("no bytes changed the state")
	}
}

// P1.2: states know nothing of each other.
func TestStatesAreApart(t *testing.T) {
	x, y := sha.New(), sha.New()
	write(t, x, []byte("abc"))
	if y.Len() != 0 || y.Sum() != known(nil) {
		t.Error("what one state took another one has")
	}
}

// P1.2: a copy and its source go on alone, wherever in a block the copy was made.
func TestCopyIsItsOwn(t *testing.T) {
	b := someBytes(260)
	for _, n := range []int{0, 1, 55, 56, 63, 64, 65, 127, 128, 129} {
		s := sha.New()
		write(t, s, b[:n])
		c := s.Copy()
		if c == nil || c == s || c.Len() != uint64(n) || c.Sum() != known(b[:n]) {
			t.Fatalf("copy behind %d bytes", n)
		}
		write(t, s, b[n:])
		if c.Len() != uint64(n) || c.Sum() != known(b[:n]) {
			t.Errorf("behind %d bytes the source changes its copy", n)
		}
		other := bytes.Repeat([]byte{7}, 100)
		write(t, c, other)
		if s.Len() != uint64(len(b)) || s.Sum() != known(b) {
			t.Errorf("behind %d bytes the copy changes its source", n)
		}
		if c.Len() != uint64(n+100) || c.Sum() != known(slices.Concat(b[:n], other)) {
			t.Errorf("a copy behind %d bytes goes on wrong", n)
		}
	}
}

// P1.2: a state that New did not make, and none.
func TestStateThatNewDidNotMake(t *testing.T) {
	var zero sha.State
	for name, s := range map[string]*sha.State{"nil": nil, "zero": &zero, "new": new(sha.State)} {
		for _, b := range [][]byte{nil, {}, {1}, someBytes(64), someBytes(200)} {
			if e := s.Write(b); e != api.ErrNil {
				t.Errorf("%s: Write of %d bytes: %d", name, len(b), e)
			}
		}
		if s.Sum() != (api.Digest{}) {
			t.Errorf("%s: Sum %x", name, s.Sum())
		}
		if s.Len() != 0 {
			t.Errorf("%s: Len %d", name, s.Len())
		}
		if s.Copy() != nil {
			t.Errorf("%s: Copy is not nil", name)
		}
	}
}

// P1.1, P1.2 (R3): what is handed in is only read, and not kept.
func TestBytesAreOnlyRead(t *testing.T) {
	b := someBytes(150)
	was := bytes.Clone(b)
	s := sha.New()
	write(t, s, b)
	sha.Sum(b)
	sha.All(b[:70], b[70:])
	s.Sum()
	if !bytes.Equal(b, was) {
		t.Fatal("the bytes were changed")
	}
	clear(b)
	if s.Sum() != known(was) {
		t.Error("the bytes were kept")
	}
}

// P1.3: names of digests.
func TestName(t *testing.T) {
	var rising, high api.Digest
	for i := range rising {
		rising[i] = byte(i*7 + 1)
		high[i] = 255
	}
	for _, d := range []api.Digest{{}, rising, high, known([]byte("abc"))} {
		if got, want := sha.Name(d), "sha256:"+hex.EncodeToString(d[:]); got != want {
			t.Errorf("%s, want %s", got, want)
		}
	}
}

// P1.3: the digest whose name a text is.
func TestParse(t *testing.T) {
	cases := map[string]api.Digest{
		nothingName:                         known(nil),
		abcName:                             known([]byte("abc")),
		"sha256:" + strings.Repeat("0", 64): {},
		"sha256:" + strings.Repeat("0", 63) + "1": {31: 1},
		"sha256:f" + strings.Repeat("0", 63):      {0: 0xf0},
	}
	for text, want := range cases {
		if d, e := sha.Parse(text); e != api.OK || d != want {
			t.Errorf("%s: %x, %d", text, d, e)
		}
	}
}

// P1.3: texts that are no digest's name.
func TestParseOfWrongTexts(t *testing.T) {
	bare := strings.TrimPrefix(abcName, "sha256:")
	texts := []string{
		"", "sha256", "sha256:", "sha256:0g", ":", bare, ":" + bare,
		"SHA256:" + bare, "Sha256:" + bare, "sha512:" + bare, "sha256-" + bare, "sha256 :" + bare, "sha256: " + bare,
		"sha256:" + strings.ToUpper(bare), "sha256:sha256:" + bare, "sha256:0x" + bare[2:],
		" " + abcName, abcName + " ", abcName + "\n", abcName + "\x00", "\x00" + abcName,
		abcName + "0", abcName + "00", abcName[:len(abcName)-1], abcName[:len(abcName)-2],
		"sha256:" + strings.Repeat("\u00e9", 32), strings.Repeat("a", 71), strings.Repeat(abcName, 2),
	}
	for n := range len(abcName) {
		texts = append(texts, abcName[:n], abcName[n+1:])
	}
	for _, text := range texts {
		if d, e := sha.Parse(text); e != api.ErrForm || d != (api.Digest{}) {
			t.Errorf("%q: %x, %d", text, d, e)
		}
	}
}

// P1.4: bytes in two parts, and in three, cut anywhere, with a sum asked for between.
func TestPartsCutAnywhere(t *testing.T) {
	b := someBytes(200)
	want := sha.Sum(b)
	for i := range len(b) + 1 {
		for _, j := range []int{i, min(i+1, 200), min(i+63, 200), min(i+64, 200), min(i+65, 200), 200} {
			s := sha.New()
			write(t, s, b[:i])
			if s.Sum() != sha.Sum(b[:i]) || s.Sum() != sha.Sum(b[:i]) {
				t.Fatalf("sum between at %d", i)
			}
			write(t, s, b[i:j])
			if s.Sum() != sha.Sum(b[:j]) || s.Len() != uint64(j) {
				t.Fatalf("sum between at %d, %d", i, j)
			}
			write(t, s, b[j:])
			if s.Sum() != want || sha.All(b[:i], b[i:j], b[j:]) != want {
				t.Fatalf("cut at %d and %d", i, j)
			}
		}
	}
}

// P1.4: many parts of any size, empty ones too.
func TestManyParts(t *testing.T) {
	r := rand.New(rand.NewSource(14))
	for range 300 {
		b := someBytes(r.Intn(1000))
		plain, asked := sha.New(), sha.New()
		var parts [][]byte
		for at := 0; at < len(b); {
			n := min(r.Intn(150), len(b)-at)
			parts = append(parts, b[at:at+n])
			write(t, plain, b[at:at+n])
			write(t, asked, b[at:at+n])
			asked.Sum()
			asked.Len()
			asked.Copy()
			at += n
		}
		want := known(b)
		if plain.Sum() != want || asked.Sum() != want || sha.All(parts...) != want || sha.Sum(b) != want {
			t.Fatalf("%d bytes in %d parts", len(b), len(parts))
		}
	}
}

// P1.5: Parse of Name is the digest.
func TestParseOfName(t *testing.T) {
	for place := range 32 {
		for v := range 256 {
			var d api.Digest
			d[place] = byte(v)
			if got, e := sha.Parse(sha.Name(d)); e != api.OK || got != d {
				t.Fatalf("%x: %x, %d", d, got, e)
			}
		}
	}
	for n := range 100 {
		d := sha.Sum(someBytes(n))
		if got, e := sha.Parse(sha.Name(d)); e != api.OK || got != d {
			t.Fatalf("%x: %x, %d", d, got, e)
		}
	}
}

// P1.5: of all texts that differ from a name in one byte, just those with another digit are names, each of its own digest.
func TestNameOfParse(t *testing.T) {
	seen := map[api.Digest]string{known([]byte("abc")): abcName}
	for place := range len(abcName) {
		for v := range 256 {
			changed := []byte(abcName)
			changed[place] = byte(v)
			text := string(changed)
			if text == abcName {
				continue
			}
			d, e := sha.Parse(text)
			may := place >= len("sha256:") && strings.IndexByte("0123456789abcdef", byte(v)) >= 0
			if may != (e == api.OK) {
				t.Fatalf("%q: %d", text, e)
			}
			if !may {
				continue
			}
			if sha.Name(d) != text {
				t.Fatalf("%q is told as %q", text, sha.Name(d))
			}
			if other, there := seen[d]; there {
				t.Fatalf("%q and %q name one digest", text, other)
			}
			seen[d] = text
		}
	}
}
