package gzip_test

import (
	"bytes"
	library "compress/gzip"
	"io"
	"math/rand"
	"strings"
	"testing"
	"time"

	"portolan/api"
	"portolan/gzip"
)

// P8.4: Get of Put tells the head and the bytes, and uses all; whatever stands behind.
func TestThereAndBack(t *testing.T) {
	random := rand.New(rand.NewSource(91))
	for k := range 600 {
		h, b := anyHead(random, byte(k%32)), someBytes(random, random.Intn(3000), 1+random.Intn(256))
		member := put(t, h, b)
		for _, behind := range []string{"", "\x00", "anything", string(member)} {
			gets(t, "there and back", append(bytes.Clone(member), behind...), len(b), got{h, string(b), len(member), api.OK})
		}
	}
	long := gzip.Head{Flags: 31, Extra: make([]byte, 65535), Name: strings.Repeat("\x01", 65535), Note: strings.Repeat("\xff", 65535)}
	member := put(t, long, []byte("abc"))
	gets(t, "the longest head", member, 3, got{long, "abc", len(member), api.OK})
}

// P8.5: members put one behind the other are apart: each span, read alone, tells its own bytes.
func TestMembersAreApart(t *testing.T) {
	random := rand.New(rand.NewSource(92))
	for range 100 {
		r := anyRow(t, random, 1+random.Intn(8), 300)
		r.goes(t, "one behind the other", len(r.out))
		_, spans, _ := gzip.All(r.b, len(r.out))
		for _, s := range spans {
			own := r.out[s.First:s.Last]
			for _, b := range [][]byte{r.b, r.b[:s.To]} {
				out, used, e := gzip.At(b, s.From, len(own))
				if !bytes.Equal(out, own) || used != s.To-s.From || e != api.OK {
					t.Errorf("%v: %d bytes, %d used, %d", s, len(out), used, e)
				}
			}
		}
	}
}

// P8.6: a member that is cut short anywhere is ErrShort.
func TestCutShort(t *testing.T) {
	random := rand.New(rand.NewSource(93))
	for k := range 64 {
		b := someBytes(random, random.Intn(100), 1+random.Intn(256))
		member := put(t, anyHead(random, byte(k%32)), b)
		for n := range member {
			fails(t, "cut", member[:n], len(b), api.ErrShort)
		}
	}
}

// P8.6: with some of its last eight bytes changed a member is ErrSum.
func TestLastBytesChanged(t *testing.T) {
	random := rand.New(rand.NewSource(94))
	for k := range 300 {
		b := someBytes(random, random.Intn(100), 1+random.Intn(256))
		member := put(t, anyHead(random, byte(k%32)), b)
		changed := bytes.Clone(member)
		for bytes.Equal(changed, member) {
			for n := len(member) - 8; n < len(member); n++ {
				changed[n] ^= byte(random.Intn(256) * random.Intn(2))
			}
		}
		fails(t, "changed", changed, len(b), api.ErrSum)
	}
}

// P8.6: with one of the bytes 4 to 9 changed a member has the same bytes, or, of a Summed head, ErrSum.
func TestNumbersChanged(t *testing.T) {
	random := rand.New(rand.NewSource(95))
	for flags := range byte(32) {
		b := someBytes(random, 50, 10)
		member := put(t, anyHead(random, flags), b)
		for at := 4; at < 10; at++ {
			for x := 1; x < 256; x++ {
				changed := bytes.Clone(member)
				changed[at] ^= byte(x)
				want := plainGet(changed, len(b))
				gets(t, "changed", changed, len(b), want)
				if summed := flags&gzip.Summed > 0; want.e != api.OK && (!summed || want.e != api.ErrSum) {
					t.Errorf("flags %d, byte %d: %d", flags, at, want.e)
				}
			}
		}
	}
	summed := put(t, gzip.Head{Flags: gzip.Summed}, []byte("abc"))
	for at := 4; at < 10; at++ {
		changed := bytes.Clone(summed)
		changed[at]++
		fails(t, "a Summed head", changed, 3, api.ErrSum)
	}
}

// P8.1: the library reads what Put tells.
func TestLibraryReads(t *testing.T) {
	random := rand.New(rand.NewSource(96))
	for k := range 300 {
		h, b := anyHead(random, byte(k%32)), someBytes(random, random.Intn(2000), 1+random.Intn(256))
		h.Name, h.Note = strings.ToLower(asLetters(h.Name)), asLetters(h.Note)
		r, err := library.NewReader(bytes.NewReader(put(t, h, b)))
		if err != nil {
			t.Fatalf("%+v: %v", h, err)
		}
		out, err := io.ReadAll(r)
		if !bytes.Equal(out, b) || err != nil || r.Name != h.Name || r.Comment != h.Note || !bytes.Equal(r.Extra, h.Extra) || r.OS != h.System {
			t.Errorf("%+v: %d bytes, %v, %+v", h, len(out), err, r.Header)
		}
		if h.Time > 0 && r.ModTime.Unix() != int64(h.Time) {
			t.Errorf("%d: %v", h.Time, r.ModTime)
		}
	}
}

// asLetters makes a text one of letters alone: the library takes other bytes for runes.
func asLetters(text string) string {
	letters := []byte(text)
	for k := range letters {
		letters[k] = 'A' + letters[k]%26
	}
	return string(letters)
}

// P8.2, P8.3: members that the library makes are read, one and several.
func TestReadsLibrary(t *testing.T) {
	random := rand.New(rand.NewSource(97))
	var all, out []byte
	var spans int
	for level := library.HuffmanOnly; level <= library.BestCompression; level++ {
		b := someBytes(random, random.Intn(100000), 1+random.Intn(20))
		var file bytes.Buffer
		w, _ := library.NewWriterLevel(&file, level)
		w.Name, w.Comment, w.Extra, w.OS, w.ModTime = "name", "", []byte("extra"), 3, time.Unix(77, 0)
		w.Write(b)
		w.Close()
		h, told, used, e := gzip.Get(file.Bytes(), len(b))
		if !bytes.Equal(told, b) || used != file.Len() || e != api.OK {
			t.Errorf("level %d: %d bytes, %d used, %d", level, len(told), used, e)
		}
		if h.Level = 0; !sameHead(h, gzip.Head{Flags: 12, System: 3, Time: 77, Extra: []byte("extra"), Name: "name"}) {
			t.Errorf("level %d: %+v", level, h)
		}
		all, out, spans = append(all, file.Bytes()...), append(out, b...), spans+1
	}
	told, l, e := gzip.All(all, len(out))
	if !bytes.Equal(told, out) || len(l) != spans || e != api.OK {
		t.Errorf("%d bytes, %d spans, %d", len(told), len(l), e)
	}
}
