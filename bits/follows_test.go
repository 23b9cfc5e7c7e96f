package bits_test

import (
	"bytes"
	"math/rand"
	"testing"

	"portolan/api"
	"portolan/bits"
)

// P3.4: what was put is read, call by call, and nothing is left but fewer than 8 bits of 0.
func TestThereAndBack(t *testing.T) {
	random := rand.New(rand.NewSource(34))
	for range 500 {
		w := bits.NewWriter()
		var back []func(r *bits.Reader) bool
		number := func(want uint64, many int) {
			back = append(back, func(r *bits.Reader) bool {
				looked, there := r.Peek(many)
				n, e := r.Get(many)
				return looked == want && there == many && n == want && e == api.OK
			})
		}
		for range random.Intn(60) {
			many := random.Intn(58)
			n := anyNumber(random, many)
			switch random.Intn(5) {
			case 0, 1:
				must(t, w.Put(n, many))
				number(n, many)
			case 2:
				must(t, w.Code(n, many))
				number(bits.Reverse(n, many), many)
			case 3:
				must(t, w.Align())
				back = append(back, func(r *bits.Reader) bool { return r.Align() == api.OK })
			case 4:
				b := someBytes(random.Intn(30))
				must(t, w.Align())
				must(t, w.Bytes(b))
				back = append(back, func(r *bits.Reader) bool {
					aligned := r.Align()
					got, e := r.Bytes(len(b))
					return aligned == api.OK && e == api.OK && bytes.Equal(got, b)
				})
			}
		}
		r := bits.NewReader(w.Done())
		for i, same := range back {
			if !same(r) {
				t.Fatalf("call %d of %d", i, len(back))
			}
		}
		if r.At() != w.Len() || r.Left() >= 8 {
			t.Fatalf("%d read of %d, %d left", r.At(), w.Len(), r.Left())
		}
		if n, e := r.Get(r.Left()); n != 0 || e != api.OK {
			t.Fatalf("left is %b, %d", n, e)
		}
	}
}

// P3.4: a code is read bit by bit, its highest one first.
func TestCodeBitByBit(t *testing.T) {
	w := bits.NewWriter()
	must(t, w.Put(2, 2))
	must(t, w.Code(0x1234, 15))
	r := bits.NewReader(w.Done())
	must(t, r.Skip(2))
	var code uint64
	for range 15 {
		bit, e := r.Get(1)
		must(t, e)
		code = code<<1 | bit
	}
	if code != 0x1234 {
		t.Errorf("%x", code)
	}
}

// P3.5: Reverse of Reverse is the number, cut; every number of few bits has its own.
func TestReverseOfReverse(t *testing.T) {
	random := rand.New(rand.NewSource(35))
	for range 500 {
		n := random.Uint64()
		for many := range 65 {
			cut := n
			if many < 64 {
				cut = n % (1 << many)
			}
			if got := bits.Reverse(bits.Reverse(n, many), many); got != cut {
				t.Fatalf("%x of %d bits: %x", n, many, got)
			}
			if bits.Reverse(n, many) != bits.Reverse(cut, many) {
				t.Fatalf("%x of %d bits: what is above counts", n, many)
			}
		}
	}
	for many := range 11 {
		seen := map[uint64]bool{}
		for n := range uint64(1) << many {
			turned := bits.Reverse(n, many)
			if turned >= 1<<many || seen[turned] {
				t.Fatalf("%d of %d bits: %d", n, many, turned)
			}
			seen[turned] = true
		}
	}
}

// P3.5: Code of n is Put of Reverse of n.
func TestCodeIsPutOfReverse(t *testing.T) {
	random := rand.New(rand.NewSource(36))
	for range 300 {
		code, put := bits.NewWriter(), bits.NewWriter()
		for range random.Intn(20) {
			many := random.Intn(58)
			n := anyNumber(random, many)
			must(t, code.Code(n, many))
			must(t, put.Put(bits.Reverse(n, many), many))
			if code.Len() != put.Len() || !bytes.Equal(code.Done(), put.Done()) {
				t.Fatalf("%x of %d bits: % x, % x", n, many, code.Done(), put.Done())
			}
		}
	}
}
