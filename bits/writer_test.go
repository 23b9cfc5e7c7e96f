package bits_test

import (
	"bytes"
	"math"
	"math/rand"
	"testing"

	"portolan/api"
	"portolan/bits"
)

// row is the chapter's row of bits, one bit an element: what a Writer has, told in the plainest way.
type row []byte

func (r *row) number(n uint64, many int) {
	for range many {
		*r = append(*r, byte(n%2))
		n /= 2
	}
}

func (r *row) code(n uint64, many int) {
	for k := many - 1; k >= 0; k-- {
		*r = append(*r, byte(n>>k&1))
	}
}

func (r *row) align() {
	for len(*r)%8 != 0 {
		*r = append(*r, 0)
	}
}

func (r *row) bytes(b []byte) {
	for _, x := range b {
		r.number(uint64(x), 8)
	}
}

func (r row) inBytes() []byte {
	var b []byte
	for k, bit := range r {
		if k%8 == 0 {
			b = append(b, 0)
		}
		b[k/8] += bit << (k % 8)
	}
	return b
}

// someBytes tells n bytes; the same at every run.
func someBytes(n int) []byte {
	b := make([]byte, n)
	rand.New(rand.NewSource(int64(n) + 3)).Read(b)
	return b
}

// anyNumber tells a number of many bits, the least and the greatest one often.
func anyNumber(random *rand.Rand, many int) uint64 {
	switch random.Intn(6) {
	case 0:
		return 0
	case 1:
		return 1<<many - 1
	}
	return random.Uint64() & (1<<many - 1)
}

func must(t *testing.T, e api.Errno) {
	t.Helper()
	if e != api.OK {
		t.Fatalf("refused: %d", e)
	}
}

func has(t *testing.T, w *bits.Writer, want row) {
	t.Helper()
	if w.Len() != len(want) || !bytes.Equal(w.Done(), want.inBytes()) {
		t.Fatalf("%d bits: % x, want %d: % x", w.Len(), w.Done(), len(want), want.inBytes())
	}
}

// P3.1: the chapter's example.
func TestWriterExample(t *testing.T) {
	w := bits.NewWriter()
	must(t, w.Put(5, 3))
	must(t, w.Put(1, 1))
	must(t, w.Code(1, 3))
	if got := w.Done(); !bytes.Equal(got, []byte{0x4d}) || w.Len() != 7 {
		t.Errorf("%d bits: % x", w.Len(), got)
	}
}

// P3.1: a new writer has nothing.
func TestNewWriter(t *testing.T) {
	w := bits.NewWriter()
	if w == nil || w.Len() != 0 || len(w.Done()) != 0 {
		t.Fatal("there is something")
	}
	must(t, w.Put(0, 0))
	must(t, w.Code(0, 0))
	must(t, w.Align())
	must(t, w.Bytes(nil))
	must(t, w.Bytes([]byte{}))
	has(t, w, nil)
}

// P3.1: numbers of every length, behind every number of bits, the least, the greatest and single bits of them.
func TestPutAndCodeOfEveryLength(t *testing.T) {
	for ahead := range 17 {
		for many := range 58 {
			numbers := []uint64{0, 1<<many - 1}
			for k := range many {
				numbers = append(numbers, 1<<k)
			}
			for _, n := range numbers {
				w, c := bits.NewWriter(), bits.NewWriter()
				var number, code row
				must(t, w.Put(1<<ahead-1, ahead))
				must(t, c.Put(1<<ahead-1, ahead))
				number.number(1<<ahead-1, ahead)
				code.number(1<<ahead-1, ahead)
				must(t, w.Put(n, many))
				must(t, c.Code(n, many))
				number.number(n, many)
				code.code(n, many)
				has(t, w, number)
				has(t, c, code)
			}
		}
	}
}

// P3.1: what is too long, and numbers that do not fit, are refused, and change nothing.
func TestPutAndCodeOfWrongNumbers(t *testing.T) {
	cases := []struct {
		n    uint64
		many int
	}{
		{0, -1}, {1, -1}, {0, -57}, {0, -64}, {0, math.MinInt}, {5, math.MinInt},
		{0, 58}, {1, 58}, {0, 63}, {0, 64}, {0, 65}, {math.MaxUint64, 64}, {0, 256}, {0, math.MaxInt}, {1, math.MaxInt},
		{1, 0}, {2, 0}, {1 << 63, 0}, {math.MaxUint64, 0},
		{1 << 57, 57}, {1 << 63, 57}, {math.MaxUint64, 57},
	}
	for many := range 58 {
		for _, n := range []uint64{1 << many, 1<<many + 1, 1 << 63, math.MaxUint64} {
			cases = append(cases, struct {
				n    uint64
				many int
			}{n, many})
		}
	}
	w := bits.NewWriter()
	var want row
	for at := range 10 {
		for _, c := range cases {
			if e := w.Put(c.n, c.many); e != api.ErrArg {
				t.Errorf("Put(%d, %d) behind %d: %d", c.n, c.many, at, e)
			}
			if e := w.Code(c.n, c.many); e != api.ErrArg {
				t.Errorf("Code(%d, %d) behind %d: %d", c.n, c.many, at, e)
			}
			has(t, w, want)
		}
		must(t, w.Put(1, 1))
		want.number(1, 1)
	}
}

// P3.1: Align lays bits of 0 up to a whole byte, and none at one.
func TestWriterAlign(t *testing.T) {
	for ahead := range 25 {
		w := bits.NewWriter()
		var want row
		must(t, w.Put(1<<ahead-1, ahead))
		want.number(1<<ahead-1, ahead)
		want.align()
		for range 2 {
			must(t, w.Align())
			if w.Len()%8 != 0 || w.Len() < ahead || w.Len() >= ahead+8 {
				t.Errorf("%d bits behind %d", w.Len(), ahead)
			}
			has(t, w, want)
		}
		must(t, w.Put(3, 2))
		want.number(3, 2)
		has(t, w, want)
	}
}

// P3.1: bytes stand behind whole bytes alone; else they are refused, no bytes too.
func TestWriterBytes(t *testing.T) {
	for ahead := range 20 {
		w := bits.NewWriter()
		var want row
		must(t, w.Put(1<<ahead-1, ahead))
		want.number(1<<ahead-1, ahead)
		for _, b := range [][]byte{nil, {}, {0}, {255, 1}, someBytes(9)} {
			e := w.Bytes(b)
			if ahead%8 != 0 {
				if e != api.ErrArg {
					t.Errorf("%d bytes behind %d bits: %d", len(b), ahead, e)
				}
				has(t, w, want)
				continue
			}
			must(t, e)
			want.bytes(b)
			has(t, w, want)
		}
		must(t, w.Code(6, 3))
		want.code(6, 3)
		has(t, w, want)
	}
}

// P3.1: Done tells the row so far, as memory of its own, and the writer goes on.
func TestDoneGoesOn(t *testing.T) {
	w := bits.NewWriter()
	var want row
	random := rand.New(rand.NewSource(31))
	for range 200 {
		many := random.Intn(58)
		n := anyNumber(random, many)
		must(t, w.Put(n, many))
		want.number(n, many)
		got := w.Done()
		was := bytes.Clone(got)
		must(t, w.Put(3, 2))
		want.number(3, 2)
		if !bytes.Equal(got, was) {
			t.Fatal("what was answered goes on with the writer")
		}
		for i := range got {
			got[i] = ^got[i]
		}
		if cap(got) > len(got) {
			got = append(got, 255)
		}
		has(t, w, want)
	}
}

// P3.1: many calls of all kinds, held against the plain row.
func TestWriterAsRow(t *testing.T) {
	random := rand.New(rand.NewSource(32))
	for range 300 {
		w := bits.NewWriter()
		var want row
		for range random.Intn(40) {
			many := random.Intn(58)
			n := anyNumber(random, many)
			b := someBytes(random.Intn(20))
			switch random.Intn(4) {
			case 0:
				must(t, w.Put(n, many))
				want.number(n, many)
			case 1:
				must(t, w.Code(n, many))
				want.code(n, many)
			case 2:
				must(t, w.Align())
				want.align()
			case 3:
				must(t, w.Align())
				must(t, w.Bytes(b))
				want.align()
				want.bytes(b)
			}
			has(t, w, want)
		}
	}
}

// P3.1: a writer that NewWriter did not make, and none; ErrNil is ahead of what else is wrong.
func TestWriterThatNewDidNotMake(t *testing.T) {
	var zero bits.Writer
	for name, w := range map[string]*bits.Writer{"nil": nil, "zero": &zero, "new": new(bits.Writer)} {
		for _, many := range []int{0, 1, 57, 58, -1} {
			for _, n := range []uint64{0, 1, math.MaxUint64} {
				if e := w.Put(n, many); e != api.ErrNil {
					t.Errorf("%s: Put(%d, %d): %d", name, n, many, e)
				}
				if e := w.Code(n, many); e != api.ErrNil {
					t.Errorf("%s: Code(%d, %d): %d", name, n, many, e)
				}
			}
		}
		if e := w.Align(); e != api.ErrNil {
			t.Errorf("%s: Align: %d", name, e)
		}
		for _, b := range [][]byte{nil, {}, {1, 2}} {
			if e := w.Bytes(b); e != api.ErrNil {
				t.Errorf("%s: Bytes: %d", name, e)
			}
		}
		if w.Len() != 0 || len(w.Done()) != 0 {
			t.Errorf("%s: %d bits: % x", name, w.Len(), w.Done())
		}
	}
}

// P3.1 (R3): bytes that are handed in are only read, and not kept; writers know nothing of each other.
func TestWriterKeepsNothing(t *testing.T) {
	b := someBytes(40)
	was := bytes.Clone(b)
	w, other := bits.NewWriter(), bits.NewWriter()
	must(t, w.Bytes(b[:30]))
	must(t, w.Put(511, 9))
	if !bytes.Equal(b, was) {
		t.Fatal("the bytes were changed")
	}
	clear(b)
	var want row
	want.bytes(was[:30])
	want.number(511, 9)
	has(t, w, want)
	has(t, other, nil)
}
