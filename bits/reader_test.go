package bits_test

import (
	"bytes"
	"math"
	"math/rand"
	"testing"

	"portolan/api"
	"portolan/bits"
)

// bitsOf is the bytes' row of bits, one bit an element.
func bitsOf(b []byte) row {
	var r row
	r.bytes(b)
	return r
}

// value is the number that stands in these bits.
func (r row) value() uint64 {
	var n uint64
	for k := len(r) - 1; k >= 0; k-- {
		n = 2*n + uint64(r[k])
	}
	return n
}

// stands tells whether r has taken at of the bits, and has the others left.
func stands(t *testing.T, r *bits.Reader, all row, at int) {
	t.Helper()
	if r.At() != at || r.Left() != len(all)-at {
		t.Fatalf("%d taken, %d left, want %d, %d", r.At(), r.Left(), at, len(all)-at)
	}
	there := min(57, len(all)-at)
	if n, many := r.Peek(57); n != all[at:at+there].value() || many != there {
		t.Fatalf("at %d: %d of %d bits", at, n, many)
	}
}

// readerAt is a reader of b that has taken so many bits.
func readerAt(t *testing.T, b []byte, at int) *bits.Reader {
	t.Helper()
	r := bits.NewReader(b)
	for ; at > 57; at -= 57 {
		must(t, r.Skip(57))
	}
	must(t, r.Skip(at))
	return r
}

// P3.2: the chapter's example.
func TestReaderExample(t *testing.T) {
	r := bits.NewReader([]byte{0x4d})
	if n, e := r.Get(3); n != 5 || e != api.OK {
		t.Errorf("Get(3): %d, %d", n, e)
	}
	if n, e := r.Get(4); n != 9 || e != api.OK {
		t.Errorf("Get(4): %d, %d", n, e)
	}
	if n, e := r.Get(2); n != 0 || e != api.ErrShort {
		t.Errorf("Get(2): %d, %d", n, e)
	}
	if n, e := r.Get(1); n != 0 || e != api.OK || r.Left() != 0 {
		t.Errorf("what a refused Get left: %d, %d", n, e)
	}
}

// P3.2: from every place, every length: Get and Skip take, Peek does not; what is not there is refused, and nothing is taken.
func TestEveryPlaceAndLength(t *testing.T) {
	for _, size := range []int{0, 1, 2, 7, 8, 9, 15} {
		b := someBytes(size)
		all := bitsOf(b)
		for at := range len(all) + 1 {
			for many := range 58 {
				r, s := readerAt(t, b, at), readerAt(t, b, at)
				there := min(many, len(all)-at)
				if n, k := r.Peek(many); n != all[at:at+there].value() || k != there {
					t.Fatalf("Peek(%d) at %d of %d: %d of %d bits", many, at, len(all), n, k)
				}
				stands(t, r, all, at)
				n, e := r.Get(many)
				skipped := s.Skip(many)
				if there < many {
					if n != 0 || e != api.ErrShort || skipped != api.ErrShort {
						t.Fatalf("%d at %d of %d: %d, %d; %d", many, at, len(all), n, e, skipped)
					}
					stands(t, r, all, at)
					stands(t, s, all, at)
					continue
				}
				if n != all[at:at+many].value() || e != api.OK || skipped != api.OK {
					t.Fatalf("%d at %d of %d: %d, %d; %d", many, at, len(all), n, e, skipped)
				}
				stands(t, r, all, at+many)
				stands(t, s, all, at+many)
			}
		}
	}
}

// P3.2: of bits that are all 1 none is lost, and none is added.
func TestGetOfOnes(t *testing.T) {
	b := bytes.Repeat([]byte{255}, 16)
	for at := range 72 {
		for many := range 57 {
			if n, e := readerAt(t, b, at).Get(many); n != 1<<many-1 || e != api.OK {
				t.Fatalf("%d at %d: %x, %d", many, at, n, e)
			}
		}
	}
}

// P3.2: numbers of bits that may not be: Get and Skip refuse them, ahead of what is left; Peek brings them there.
func TestWrongNumbersOfBits(t *testing.T) {
	for _, size := range []int{0, 1, 7, 8, 20, 40} {
		b := someBytes(size)
		all := bitsOf(b)
		for _, at := range []int{0, 1, 8, 8 * size} {
			if at > 8*size {
				continue
			}
			r := readerAt(t, b, at)
			for _, many := range []int{-1, -2, -57, -64, math.MinInt, 58, 59, 63, 64, 65, 128, 1 << 32, math.MaxInt} {
				if n, e := r.Get(many); n != 0 || e != api.ErrArg {
					t.Errorf("Get(%d): %d, %d", many, n, e)
				}
				if e := r.Skip(many); e != api.ErrArg {
					t.Errorf("Skip(%d): %d", many, e)
				}
				there := 0
				if many > 0 {
					there = min(57, len(all)-at)
				}
				if n, k := r.Peek(many); n != all[at:at+there].value() || k != there {
					t.Errorf("Peek(%d): %d of %d bits", many, n, k)
				}
				stands(t, r, all, at)
			}
		}
	}
}

// P3.3: Align goes on at the next whole byte, and stays at one, the end too.
func TestReaderAlign(t *testing.T) {
	for _, size := range []int{0, 1, 2, 5} {
		b := someBytes(size)
		all := bitsOf(b)
		for at := range len(all) + 1 {
			r := readerAt(t, b, at)
			whole := at
			for whole%8 != 0 {
				whole++
			}
			for range 2 {
				must(t, r.Align())
				stands(t, r, all, whole)
			}
		}
	}
}

// P3.3: from every place, every number of bytes, and such as may not be.
func TestReaderBytes(t *testing.T) {
	for _, size := range []int{0, 1, 2, 5} {
		b := someBytes(size)
		all := bitsOf(b)
		for at := range len(all) + 1 {
			for _, many := range []int{0, 1, 2, 3, 4, 5, 6, 7, -1, -2, -8, math.MinInt, 8, 1 << 32, 1 << 60, 1 << 61, 1<<61 + 1, 1 << 62, math.MaxInt} {
				r := readerAt(t, b, at)
				got, e := r.Bytes(many)
				want := api.OK
				switch {
				case many < 0 || at%8 != 0:
					want = api.ErrArg
				case many > size-at/8:
					want = api.ErrShort
				}
				if e != want {
					t.Fatalf("%d bytes at %d of %d: %d, want %d", many, at, len(all), e, want)
				}
				if e != api.OK {
					if len(got) != 0 {
						t.Fatalf("%d bytes beside %d", len(got), e)
					}
					stands(t, r, all, at)
					continue
				}
				if !bytes.Equal(got, b[at/8:at/8+many]) {
					t.Fatalf("%d bytes at %d: % x", many, at, got)
				}
				stands(t, r, all, at+8*many)
			}
		}
	}
}

// P3.3: Left and At, step by step.
func TestLeftAndAt(t *testing.T) {
	r := bits.NewReader(someBytes(10))
	for at := range 80 {
		if r.At() != at || r.Left() != 80-at {
			t.Fatalf("%d taken, %d left behind %d", r.At(), r.Left(), at)
		}
		if _, e := r.Get(1); e != api.OK {
			t.Fatal(e)
		}
	}
	if r.At() != 80 || r.Left() != 0 {
		t.Errorf("%d taken, %d left at the end", r.At(), r.Left())
	}
}

// P3.3: the lowest bits, the other way round.
func TestReverse(t *testing.T) {
	cases := []struct {
		n    uint64
		many int
		want uint64
	}{
		{0, 0, 0}, {1, 0, 0}, {math.MaxUint64, 0, 0}, {1, 1, 1}, {2, 1, 0}, {3, 1, 1}, {1, 3, 4}, {6, 3, 3}, {14, 3, 3},
		{1, 64, 1 << 63}, {1 << 63, 64, 1}, {math.MaxUint64, 64, math.MaxUint64}, {0x4d, 8, 0xb2},
		{0x0123456789abcdef, 64, 0xf7b3d591e6a2c480}, {1 << 63, 63, 0}, {1 << 62, 63, 1},
	}
	for _, c := range cases {
		if got := bits.Reverse(c.n, c.many); got != c.want {
			t.Errorf("Reverse(%x, %d): %x, want %x", c.n, c.many, got, c.want)
		}
	}
	random := rand.New(rand.NewSource(33))
	for range 200 {
		n := random.Uint64()
		for many := range 65 {
			var turned row
			turned.code(n, many)
			if got := bits.Reverse(n, many); got != turned.value() {
				t.Fatalf("Reverse(%x, %d): %x, want %x", n, many, got, turned.value())
			}
		}
		for _, many := range []int{-1, -64, math.MinInt} {
			if got := bits.Reverse(n, many); got != 0 {
				t.Fatalf("Reverse(%x, %d): %x", n, many, got)
			}
		}
		for _, many := range []int{65, 128, 1 << 32, math.MaxInt} {
			if got := bits.Reverse(n, many); got != bits.Reverse(n, 64) {
				t.Fatalf("Reverse(%x, %d): %x", n, many, got)
			}
		}
	}
}

// P3.2, P3.3: a reader that NewReader did not make, and none; ErrNil is ahead of what else is wrong.
func TestReaderThatNewDidNotMake(t *testing.T) {
	var zero bits.Reader
	for name, r := range map[string]*bits.Reader{"nil": nil, "zero": &zero, "new": new(bits.Reader)} {
		for _, many := range []int{0, 1, 57, 58, -1, math.MinInt, math.MaxInt} {
			if n, e := r.Get(many); n != 0 || e != api.ErrNil {
				t.Errorf("%s: Get(%d): %d, %d", name, many, n, e)
			}
			if n, k := r.Peek(many); n != 0 || k != 0 {
				t.Errorf("%s: Peek(%d): %d, %d", name, many, n, k)
			}
			if e := r.Skip(many); e != api.ErrNil {
				t.Errorf("%s: Skip(%d): %d", name, many, e)
			}
			if b, e := r.Bytes(many); len(b) != 0 || e != api.ErrNil {
				t.Errorf("%s: Bytes(%d): % x, %d", name, many, b, e)
			}
		}
		if e := r.Align(); e != api.ErrNil {
			t.Errorf("%s: Align: %d", name, e)
		}
		if r.Left() != 0 || r.At() != 0 {
			t.Errorf("%s: %d left, %d taken", name, r.Left(), r.At())
		}
	}
}

// P3.2: a reader of no bytes is one all the same.
func TestReaderOfNothing(t *testing.T) {
	for _, b := range [][]byte{nil, {}} {
		r := bits.NewReader(b)
		if n, e := r.Get(0); n != 0 || e != api.OK {
			t.Errorf("Get(0): %d, %d", n, e)
		}
		must(t, r.Skip(0))
		must(t, r.Align())
		if got, e := r.Bytes(0); len(got) != 0 || e != api.OK {
			t.Errorf("Bytes(0): % x, %d", got, e)
		}
		if _, e := r.Get(1); e != api.ErrShort {
			t.Errorf("Get(1): %d", e)
		}
		if _, e := r.Bytes(1); e != api.ErrShort {
			t.Errorf("Bytes(1): %d", e)
		}
		stands(t, r, nil, 0)
	}
}

// P3.2, P3.3 (R3): the bytes are only read, and not kept; what is answered is new memory; readers know nothing of each other.
func TestReaderKeepsNothing(t *testing.T) {
	b := someBytes(20)
	was := bytes.Clone(b)
	r, other := bits.NewReader(b), bits.NewReader(b)
	first, e := r.Bytes(5)
	must(t, e)
	for i := range first {
		first[i] = ^first[i]
	}
	if cap(first) > len(first) {
		first = append(first, ^was[5])
	}
	if !bytes.Equal(b, was) {
		t.Fatal("the bytes were changed")
	}
	clear(b)
	if got, e := r.Bytes(15); e != api.OK || !bytes.Equal(got, was[5:]) {
		t.Errorf("% x, %d", got, e)
	}
	if got, e := other.Bytes(20); e != api.OK || !bytes.Equal(got, was) {
		t.Errorf("% x, %d", got, e)
	}
}
