package crc_test

import (
	"bytes"
	"hash/crc32"
	"math"
	"math/rand"
	"slices"
	"strings"
	"testing"

	"portolan/crc"
)

// period is after how many steps a register comes back: one of 32 bits passes through all values but 0.
const period = 1<<32 - 1

// someBytes tells n bytes; the same at every run.
func someBytes(n int) []byte {
	r := rand.New(rand.NewSource(int64(n) + 2))
	b := make([]byte, n)
	for i := range b {
		b[i] = byte(r.Intn(256))
	}
	return b
}

// someSums tells sums, the edges first; the same at every run.
func someSums(n int) []uint32 {
	r := rand.New(rand.NewSource(32))
	l := []uint32{0, 1, 0x80000000, 0x7fffffff, 0xffffffff, 0xfffffffe, 0xedb88320, 0x2144df1c, 0xcbf43926}
	for len(l) < n {
		l = append(l, r.Uint32())
	}
	return l
}

// goesOn is the chapter's rule, bit by bit: the sum of a row whose sum is this, with b behind it.
func goesOn(sum uint32, b []byte) uint32 {
	register := ^sum
	for _, x := range b {
		register ^= uint32(x)
		for range 8 {
			out := register & 1
			register >>= 1
			if out == 1 {
				register ^= 0xedb88320
			}
		}
	}
	return ^register
}

func exclusiveOr(rows ...[]byte) []byte {
	all := make([]byte, len(rows[0]))
	for _, row := range rows {
		for i, x := range row {
			all[i] ^= x
		}
	}
	return all
}

// P2.1: the chapter's examples, and what other programs tell.
func TestOfExamples(t *testing.T) {
	cases := []struct {
		text string
		sum  uint32
	}{
		{"", 0},
		{"a", 0xe8b7be43},
		{"123456789", 0xcbf43926},
		{"abc", 0x352441c2},
		{"\x00", 0xd202ef8d},
		{"\x00\x00\x00\x00", 0x2144df1c},
		{"\xff\xff\xff\xff", 0xffffffff},
		{"The quick brown fox jumps over the lazy dog", 0x414fa339},
		{strings.Repeat("a", 1000000), 0xdc25bfbc},
	}
	for _, c := range cases {
		if got := crc.Of([]byte(c.text)); got != c.sum {
			t.Errorf("%.50q: %08x, want %08x", c.text, got, c.sum)
		}
	}
}

// P2.1: every byte alone and behind others, and every length up to some hundreds.
func TestOfEveryByteAndLength(t *testing.T) {
	for x := range 256 {
		one := []byte{byte(x)}
		if got := crc.Of(one); got != goesOn(0, one) || got != crc32.ChecksumIEEE(one) {
			t.Errorf("byte %d: %08x", x, got)
		}
		behind := []byte{'a', byte(x), 'b'}
		if got := crc.Of(behind); got != goesOn(0, behind) {
			t.Errorf("byte %d between others: %08x", x, got)
		}
	}
	b := someBytes(600)
	for n := range len(b) + 1 {
		if got := crc.Of(b[:n]); got != goesOn(0, b[:n]) || got != crc32.ChecksumIEEE(b[:n]) {
			t.Errorf("%d bytes: %08x", n, got)
		}
	}
	long := someBytes(1<<20 + 3)
	if crc.Of(long) != crc32.ChecksumIEEE(long) {
		t.Error("many bytes")
	}
}

// P2.1: parts stand one behind the other, empty ones and none too.
func TestOfParts(t *testing.T) {
	b := someBytes(100)
	cases := []struct {
		parts [][]byte
		whole []byte
	}{
		{nil, nil},
		{[][]byte{}, nil},
		{[][]byte{nil}, nil},
		{[][]byte{nil, {}, nil}, nil},
		{[][]byte{b}, b},
		{[][]byte{b[:1], b[1:]}, b},
		{[][]byte{nil, b[:50], {}, b[50:51], nil, b[51:], nil}, b},
		{[][]byte{b[50:], b[:50]}, slices.Concat(b[50:], b[:50])},
		{[][]byte{b, b}, slices.Concat(b, b)},
	}
	for i, c := range cases {
		want := goesOn(0, c.whole)
		if got := crc.Of(c.parts...); got != want {
			t.Errorf("case %d: Of: %08x, want %08x", i, got, want)
		}
		var r crc.Run
		r.Add(c.parts...)
		if r.Sum() != want || r.Len() != len(c.whole) {
			t.Errorf("case %d: Run: %08x of %d bytes, want %08x", i, r.Sum(), r.Len(), want)
		}
	}
	if crc.Of() != 0 {
		t.Error("no parts")
	}
}

// P2.1: a Run begins as the empty struct, and tells the sum of all that came, whenever it is asked.
func TestRunGoesOn(t *testing.T) {
	b := someBytes(300)
	var zero crc.Run
	for name, r := range map[string]*crc.Run{"zero": &zero, "new": new(crc.Run), "literal": {}} {
		if r.Sum() != 0 || r.Len() != 0 {
			t.Fatalf("%s: %08x of %d bytes at the beginning", name, r.Sum(), r.Len())
		}
		for i := range b {
			r.Add(b[i : i+1])
			for range 2 {
				if r.Sum() != goesOn(0, b[:i+1]) || r.Len() != i+1 {
					t.Fatalf("%s: %08x of %d bytes behind %d", name, r.Sum(), r.Len(), i+1)
				}
			}
		}
		r.Add()
		r.Add(nil)
		r.Add(nil, []byte{})
		if r.Sum() != goesOn(0, b) || r.Len() != len(b) {
			t.Errorf("%s: no bytes changed it", name)
		}
	}
}

// P2.1: bytes that are parted anywhere have one sum, and one count.
func TestRunInManyParts(t *testing.T) {
	random := rand.New(rand.NewSource(21))
	for range 300 {
		b := someBytes(random.Intn(500))
		var r crc.Run
		for at := 0; at < len(b); {
			var parts [][]byte
			for range random.Intn(4) {
				n := random.Intn(min(len(b)-at, 40) + 1)
				parts = append(parts, b[at:at+n])
				at += n
			}
			r.Add(parts...)
			if r.Sum() != crc32.ChecksumIEEE(b[:at]) || r.Len() != at {
				t.Fatalf("%08x of %d bytes behind %d", r.Sum(), r.Len(), at)
			}
		}
	}
}

// P2.1: behind Reset a Run is as at its beginning, and goes on from there.
func TestReset(t *testing.T) {
	var r crc.Run
	r.Reset()
	if r.Sum() != 0 || r.Len() != 0 {
		t.Error("an empty Run is changed")
	}
	r.Add([]byte("something"), []byte("else"))
	r.Reset()
	if r.Sum() != 0 || r.Len() != 0 {
		t.Errorf("%08x of %d bytes", r.Sum(), r.Len())
	}
	r.Add([]byte("123456789"))
	if r.Sum() != 0xcbf43926 || r.Len() != 9 {
		t.Errorf("%08x of %d bytes behind it", r.Sum(), r.Len())
	}
}

// P2.1: of none Add and Reset do nothing, and there is 0.
func TestNoRun(t *testing.T) {
	var none *crc.Run
	none.Add()
	none.Add(nil)
	none.Add([]byte("a"), []byte("b"))
	none.Reset()
	if none.Sum() != 0 || none.Len() != 0 {
		t.Errorf("%08x of %d bytes", none.Sum(), none.Len())
	}
	add := none.Add
	add([]byte("a"))
}

// P2.1: Runs know nothing of each other, nor of what Of and others did.
func TestRunsAreApart(t *testing.T) {
	var x, y crc.Run
	x.Add([]byte("1234"))
	copied := x
	if y.Sum() != 0 || y.Len() != 0 {
		t.Error("what one took another one has")
	}
	add := x.Add
	add([]byte("56"), []byte("789"))
	crc.Of([]byte("other"))
	if x.Sum() != 0xcbf43926 || x.Len() != 9 {
		t.Errorf("%08x of %d bytes by a handed-on Add", x.Sum(), x.Len())
	}
	if copied.Sum() != crc.Of([]byte("1234")) || copied.Len() != 4 {
		t.Error("a copy goes on with its source")
	}
}

// P2.1 (R3): what is handed in is only read, and not kept.
func TestBytesAreOnlyRead(t *testing.T) {
	b := someBytes(150)
	was := bytes.Clone(b)
	parts := [][]byte{b[:70], b[70:]}
	var r crc.Run
	r.Add(parts...)
	crc.Of(parts...)
	if !bytes.Equal(b, was) || len(parts) != 2 || len(parts[0]) != 70 || len(parts[1]) != 80 {
		t.Fatal("what was handed in is changed")
	}
	clear(b)
	clear(parts)
	r.Add([]byte("x"))
	if r.Sum() != goesOn(0, append(was, 'x')) {
		t.Error("what was handed in is kept")
	}
}

// P2.2: as many bytes 0 behind a row, walked through.
func TestZeros(t *testing.T) {
	if got := crc.Zeros(0, 4); got != 0x2144df1c {
		t.Errorf("the chapter's example: %08x", got)
	}
	for _, sum := range someSums(40) {
		want := sum
		for n := range 300 {
			if got := crc.Zeros(sum, n); got != want {
				t.Fatalf("%d behind %08x: %08x, want %08x", n, sum, got, want)
			}
			want = goesOn(want, []byte{0})
		}
	}
	b := someBytes(50)
	for _, n := range []int{1000, 4095, 4096, 65535, 65537, 1<<20 + 1} {
		if got := crc.Zeros(crc.Of(b), n); got != crc32.ChecksumIEEE(append(bytes.Clone(b), make([]byte, n)...)) {
			t.Errorf("%d: %08x", n, got)
		}
	}
}

// P2.2: n below 0 is as 0.
func TestZerosBelowNone(t *testing.T) {
	for _, sum := range someSums(100) {
		for _, n := range []int{0, -1, -2, -8, -256, math.MinInt32, math.MinInt + 1, math.MinInt} {
			if got := crc.Zeros(sum, n); got != sum {
				t.Errorf("%d behind %08x: %08x", n, sum, got)
			}
		}
	}
}

// P2.2: numbers of bytes that no row could have end soon, and are right: the register comes back behind a period.
func TestZerosOfGreatNumbers(t *testing.T) {
	random := rand.New(rand.NewSource(22))
	for _, sum := range someSums(40) {
		for _, n := range []int{period, 2 * period, math.MaxInt, math.MaxInt - 1, 1 << 62, 1 << 40} {
			if got := crc.Zeros(sum, n); got != crc.Zeros(sum, n%period) {
				t.Errorf("%d behind %08x: %08x", n, sum, got)
			}
		}
		if got := crc.Zeros(sum, period); got != sum {
			t.Errorf("a period behind %08x: %08x", sum, got)
		}
		n, m := random.Intn(1<<61), random.Intn(1<<61)
		if crc.Zeros(crc.Zeros(sum, n), m) != crc.Zeros(sum, n+m) {
			t.Errorf("%d and %d behind %08x", n, m, sum)
		}
	}
}

// P2.2: Join by the chapter's rule, whatever b is, and n below 0 as 0.
func TestJoinOfAnyNumbers(t *testing.T) {
	sums := someSums(30)
	for _, n := range []int{0, 1, 2, 3, 4, 5, 8, 31, 100} {
		zeros := make([]byte, n)
		for _, a := range sums {
			for _, b := range sums {
				want := goesOn(a, zeros) ^ goesOn(0, zeros) ^ b
				if got := crc.Join(a, b, n); got != want {
					t.Fatalf("Join(%08x, %08x, %d): %08x, want %08x", a, b, n, got, want)
				}
			}
		}
	}
	for _, n := range []int{0, -1, -9, math.MinInt} {
		for _, a := range sums {
			for _, b := range sums {
				if got := crc.Join(a, b, n); got != a^b {
					t.Fatalf("Join(%08x, %08x, %d): %08x, want %08x", a, b, n, got, a^b)
				}
			}
		}
	}
	for _, n := range []int{period, 1 << 40, math.MaxInt} {
		for _, a := range sums {
			want := crc.Zeros(a, n) ^ crc.Zeros(0, n) ^ 77
			if got := crc.Join(a, 77, n); got != want {
				t.Fatalf("Join(%08x, 77, %d): %08x, want %08x", a, n, got, want)
			}
		}
	}
}

// P2.3: the four bytes bring any sum to any other one, itself too.
func TestTail(t *testing.T) {
	sums := someSums(120)
	for _, sum := range sums {
		for _, want := range sums {
			tail := crc.Tail(sum, want)
			if got := goesOn(sum, tail[:]); got != want {
				t.Fatalf("Tail(%08x, %08x): % x leads to %08x", sum, want, tail, got)
			}
		}
	}
	if tail := crc.Tail(0, 0x2144df1c); tail != [4]byte{} {
		t.Errorf("four bytes 0: % x", tail)
	}
	if tail := crc.Tail(0, 0xffffffff); tail != [4]byte{0xff, 0xff, 0xff, 0xff} {
		t.Errorf("four bytes ff: % x", tail)
	}
}

// P2.3: behind rows, with the package's own sums.
func TestTailBehindRows(t *testing.T) {
	for n := range 100 {
		b := someBytes(n)
		for _, want := range someSums(20) {
			tail := crc.Tail(crc.Of(b), want)
			if got := crc.Of(b, tail[:]); got != want {
				t.Fatalf("behind %d bytes: %08x, want %08x", n, got, want)
			}
		}
	}
}

// P2.4: the sum of two rows is put together of theirs, wherever they are parted.
func TestJoinOfRows(t *testing.T) {
	b := someBytes(400)
	whole := crc.Of(b)
	for i := range len(b) + 1 {
		x, y := b[:i], b[i:]
		if got := crc.Join(crc.Of(x), crc.Of(y), len(y)); got != whole || got != crc.Of(x, y) {
			t.Errorf("parted at %d: %08x, want %08x", i, got, whole)
		}
	}
	random := rand.New(rand.NewSource(24))
	for range 200 {
		x, y, z := someBytes(random.Intn(300)), someBytes(random.Intn(3000)), someBytes(random.Intn(3))
		left := crc.Join(crc.Join(crc.Of(x), crc.Of(y), len(y)), crc.Of(z), len(z))
		right := crc.Join(crc.Of(x), crc.Join(crc.Of(y), crc.Of(z), len(z)), len(y)+len(z))
		if want := crc32.ChecksumIEEE(slices.Concat(x, y, z)); left != want || right != want {
			t.Fatalf("three rows: %08x, %08x, want %08x", left, right, want)
		}
	}
}

// P2.5: Tail tells the four bytes that were there, as no others lead there.
func TestTailIsTheOnlyOne(t *testing.T) {
	random := rand.New(rand.NewSource(25))
	for range 5000 {
		x := someBytes(random.Intn(40))
		four := [4]byte{byte(random.Intn(256)), byte(random.Intn(256)), byte(random.Intn(256)), byte(random.Intn(256))}
		if got := crc.Tail(crc.Of(x), crc.Of(x, four[:])); got != four {
			t.Fatalf("% x, not % x", got, four)
		}
	}
}

// P2.5: changes of the 32 bits of four bytes change the sum, each in a way that the others together can't undo: so do all changes of them.
func TestFourBytesChangeTheSum(t *testing.T) {
	b := someBytes(24)
	was := crc.Of(b)
	for at := range len(b) - 3 {
		var byTop [32]uint32 // a change for each highest bit: what is left behind these is made of no others
		for bit := range 32 {
			changed := bytes.Clone(b)
			changed[at+bit/8] ^= 1 << (bit % 8)
			left := crc.Of(changed) ^ was
			for k := 31; k >= 0; k-- {
				if left>>k&1 == 0 {
					continue
				}
				if byTop[k] == 0 {
					byTop[k] = left
					break
				}
				left ^= byTop[k]
			}
			if left == 0 {
				t.Fatalf("at %d: bit %d does what others do", at, bit)
			}
		}
	}
}

// P2.5: all changes of two bytes side by side, and many of four, make another sum each.
func TestChangesSideBySide(t *testing.T) {
	b := someBytes(20)
	seen := map[uint32]bool{}
	for change := range 1 << 16 {
		changed := bytes.Clone(b)
		changed[7] ^= byte(change)
		changed[8] ^= byte(change >> 8)
		seen[crc.Of(changed)] = true
	}
	if len(seen) != 1<<16 {
		t.Errorf("%d sums of %d rows", len(seen), 1<<16)
	}
	random := rand.New(rand.NewSource(26))
	for range 20000 {
		change := random.Uint32()
		changed := bytes.Clone(b)
		at := random.Intn(len(b) - 3)
		for k := range 4 {
			changed[at+k] ^= byte(change >> (8 * k))
		}
		if same := crc.Of(changed) == crc.Of(b); same != (change == 0) {
			t.Fatalf("change %08x at %d", change, at)
		}
	}
}

// P2.6: three rows of one length.
func TestThreeRows(t *testing.T) {
	random := rand.New(rand.NewSource(27))
	for n := range 200 {
		x, y, z := make([]byte, n), make([]byte, n), make([]byte, n)
		random.Read(x)
		random.Read(y)
		random.Read(z)
		if got := crc.Of(x) ^ crc.Of(y) ^ crc.Of(z); got != crc.Of(exclusiveOr(x, y, z)) {
			t.Errorf("%d bytes: %08x", n, got)
		}
		if got := crc.Of(x) ^ crc.Of(x) ^ crc.Of(z); got != crc.Of(z) {
			t.Errorf("%d bytes: two of them one row: %08x", n, got)
		}
	}
}
