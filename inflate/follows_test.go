package inflate_test

import (
	"bytes"
	"math"
	"math/rand"
	"slices"
	"testing"

	"portolan/api"
	"portolan/inflate"
)

// P6.3: streams that are written block by block are expanded to what their blocks say.
func TestBack(t *testing.T) {
	random := rand.New(rand.NewSource(63))
	for range 300 {
		b, out, l := anyStream(random, 1+random.Intn(2000))
		got, used, e := inflate.All(b, len(out))
		if !bytes.Equal(got, out) || used != len(b) || e != api.OK {
			t.Fatalf("%d bytes, not %d, %d used of %d, error %d", len(got), len(out), used, len(b), e)
		}
		if blocks, e := inflate.Blocks(b, len(out)); !slices.Equal(blocks, l) || e != api.OK {
			t.Fatalf("%v, %d, not %v", blocks, e, l)
		}
	}
}

// P6.4: whatever stands behind the last block changes nothing; with a byte less, or more, than used it is ErrShort.
func TestBehindTheLastBlock(t *testing.T) {
	random := rand.New(rand.NewSource(64))
	for range 60 {
		b, out, l := anyStream(random, 40)
		for _, n := range []int{1, 2, 10, 3000} {
			behind := append(bytes.Clone(b), someBytes(n)...)
			got, used, e := inflate.All(behind, len(out))
			if !bytes.Equal(got, out) || used != len(b) || e != api.OK {
				t.Fatalf("%d bytes, not %d, %d used of %d, error %d", len(got), len(out), used, len(b), e)
			}
			if blocks, e := inflate.Blocks(behind, len(out)); !slices.Equal(blocks, l) || e != api.OK {
				t.Fatalf("%v, %d", blocks, e)
			}
		}
		for n := range b {
			fails(t, "cut", b[:n], plenty, api.ErrShort)
		}
	}
}

// P6.4: the bits behind the last block in its last byte, too.
func TestBehindTheLastBit(t *testing.T) {
	var r row
	r.fixed(true, literals("a")...)
	at := len(r)
	for n := range 1 << (24 - at) {
		changed := slices.Clone(r)
		changed.number(n, 24-at)
		goes(t, "last bits", changed.inBytes(), []byte("a"))
	}
}

// P6.5: by a greater cap the same goes out; by a lesser one ErrCap.
func TestCaps(t *testing.T) {
	random := rand.New(rand.NewSource(65))
	for range 40 {
		b, out, l := anyStream(random, 60)
		for _, most := range []int{len(out), len(out) + 1, 2*len(out) + 7, plenty, math.MaxInt} {
			got, used, e := inflate.All(b, most)
			blocks, be := inflate.Blocks(b, most)
			if !bytes.Equal(got, out) || used != len(b) || !slices.Equal(blocks, l) || e != api.OK || be != api.OK {
				t.Fatalf("by %d: %d bytes, %d used, errors %d, %d", most, len(got), used, e, be)
			}
		}
		for most := range len(out) {
			fails(t, "by less", b, most, api.ErrCap)
		}
	}
}
