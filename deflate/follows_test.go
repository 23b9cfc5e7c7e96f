package deflate_test

import (
	"bytes"
	"compress/flate"
	"io"
	"math/rand"
	"slices"
	"testing"

	"portolan/api"
	"portolan/deflate"
	"portolan/inflate"
	"portolan/match"
)

// back holds a stream against what it is made of: the project's own reader, and the library's.
func back(t *testing.T, stream, want []byte) {
	t.Helper()
	out, used, e := inflate.All(append(slices.Clone(stream), 1, 2, 3), len(want))
	if !bytes.Equal(out, want) || used != len(stream) || e != api.OK {
		t.Fatalf("%d bytes: %d back, %d of %d used, %d", len(want), len(out), used, len(stream), e)
	}
	library, err := io.ReadAll(flate.NewReader(bytes.NewReader(stream)))
	if !bytes.Equal(library, want) || err != nil {
		t.Fatalf("%d bytes: the library reads %d, %v", len(want), len(library), err)
	}
}

// P7.4: what is told back is the bytes, and all of the stream is used.
func TestBack(t *testing.T) {
	random := rand.New(rand.NewSource(77))
	for _, letters := range []int{1, 2, 10, 100, 256} {
		for _, many := range []int{0, 1, 2, 3, 4, 257, 258, 259, 260, 511, 512, 513, 4000, 70000, 300000} {
			b := someBytes(random, many, letters)
			stream, e := deflate.All(b)
			if e != api.OK {
				t.Fatalf("%d bytes: %d", many, e)
			}
			back(t, stream, b)
		}
	}
	for range 300 {
		l := anySteps(random, random.Intn(3000))
		b, _ := match.Expand(l, api.MaxBlob)
		stream, e := deflate.Steps(l)
		if e != api.OK {
			t.Fatalf("%d steps: %d", len(l), e)
		}
		back(t, stream, b)
	}
}

// P7.5: however the bytes are, the stream is hardly longer; and no other one of the three ways is shorter.
func TestShortest(t *testing.T) {
	random := rand.New(rand.NewSource(78))
	for range 200 {
		b := someBytes(random, random.Intn(6000), 1+random.Intn(256))
		l, _ := match.Cut(b, deflate.Chain)
		stream, _ := deflate.All(b)
		parts := max(1, (len(l)+deflate.Parts-1)/deflate.Parts)
		if len(stream) > len(b)+5*parts {
			t.Errorf("%d bytes in %d parts: %d", len(b), parts, len(stream))
		}
		if parts == 1 {
			stored, fixed, dynamic, _ := deflate.Sizes(l)
			if least := min(stored, fixed, dynamic); len(stream) != (least+7)/8 {
				t.Errorf("%d bytes: %d, not %d bits", len(b), len(stream), least)
			}
		}
	}
}

// P7.1, P7.2: what is handed in is only read.
func TestOnlyRead(t *testing.T) {
	random := rand.New(rand.NewSource(79))
	b, l := someBytes(random, 3000, 30), anySteps(random, 1000)
	sameBytes, sameSteps := slices.Clone(b), slices.Clone(l)
	deflate.All(b)
	deflate.Steps(l)
	deflate.Sizes(l)
	if !bytes.Equal(b, sameBytes) || !slices.Equal(l, sameSteps) {
		t.Error("changed")
	}
}
