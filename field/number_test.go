package field_test

import (
	"bytes"
	"fmt"
	"math"
	"math/big"
	"math/rand"
	"testing"

	"portolan/api"
	"portolan/field"
)

// The chapter's numbers read in the plainest way, with numbers that know no bounds.

// plainOctal is nil, if n does not fit.
func plainOctal(n int64, many int) []byte {
	b := fmt.Appendf(nil, "%0*o\x00", many-1, n)
	if n < 0 || len(b) != many {
		return nil
	}
	return b
}

// plainWide is nil, if n does not fit.
func plainWide(n int64, many int) []byte {
	half := new(big.Int).Lsh(big.NewInt(1), uint(8*many-2))
	all := big.NewInt(n)
	if all.Cmp(half) >= 0 || all.Cmp(new(big.Int).Neg(half)) < 0 {
		return nil
	}
	if n < 0 {
		all.Add(all, half).Add(all, half)
	}
	mark := new(big.Int).Lsh(half, 1)
	return all.Add(all, mark).FillBytes(make([]byte, many))
}

// plainReadWide reads a field in base 256.
func plainReadWide(b []byte) (int64, api.Errno) {
	half := new(big.Int).Lsh(big.NewInt(1), uint(8*len(b)-2))
	all := new(big.Int).SetBytes(b)
	all.Sub(all, half).Sub(all, half) // the mark
	if all.Cmp(half) >= 0 {
		all.Sub(all, half).Sub(all, half)
	}
	if !all.IsInt64() {
		return 0, api.ErrLong
	}
	return all.Int64(), api.OK
}

// someNumbers tells numbers, all edges of bits first; the same at every run.
func someNumbers() []int64 {
	l := []int64{0, 7, 8, 9, 511, 512, math.MaxInt64, math.MinInt64}
	for k := range 63 {
		edge := int64(1) << k
		l = append(l, edge, edge-1, edge+1, -edge, -edge-1, 1-edge)
	}
	random := rand.New(rand.NewSource(91))
	for range 200 {
		n := int64(random.Uint64()) >> random.Intn(64)
		l = append(l, n, -n)
	}
	return l
}

func reads(t *testing.T, b []byte, want int64, wantError api.Errno) {
	t.Helper()
	if n, e := field.Number(b); n != want || e != wantError {
		t.Errorf("number of %q: %d, %d; not %d, %d", b, n, e, want, wantError)
	}
}

// lays holds what Octal or Wide answer against the field that is wanted: ErrLong, if there is none.
func lays(t *testing.T, n int64, many int, b []byte, e api.Errno, want []byte) {
	t.Helper()
	wantError := api.OK
	if want == nil {
		wantError = api.ErrLong
	}
	if !bytes.Equal(b, want) || e != wantError {
		t.Errorf("%d in %d bytes: %q, %d; not %q", n, many, b, e, want)
	}
}

// P9.1: the chapter's examples.
func TestNumberExamples(t *testing.T) {
	octal, e := field.Octal(8, 8)
	lays(t, 8, 8, octal, e, []byte("0000010\x00"))
	wide, e := field.Wide(-1, 8)
	lays(t, -1, 8, wide, e, bytes.Repeat([]byte{255}, 8))
	wide, e = field.Wide(256, 4)
	lays(t, 256, 4, wide, e, []byte{128, 0, 1, 0})
	reads(t, []byte(" 17 x"), 15, api.OK)
	reads(t, []byte("        "), 0, api.OK)
	reads(t, []byte("9"), 0, api.ErrForm)
}

// P9.1: Octal of all lengths, the greatest number of each and the one behind it among them.
func TestOctal(t *testing.T) {
	for many := 2; many <= 20; many++ {
		for _, n := range someNumbers() {
			b, e := field.Octal(n, many)
			lays(t, n, many, b, e, plainOctal(n, many))
		}
		most := int64(1)<<(3*(many-1)) - 1
		if b, e := field.Octal(most, many); e != api.OK || len(b) != many || b[0] != '7' || b[many-1] != 0 {
			t.Errorf("the greatest of %d bytes: %q, %d", many, b, e)
		}
		if b, e := field.Octal(most+1, many); e != api.ErrLong || len(b) != 0 {
			t.Errorf("above the greatest of %d bytes: %q, %d", many, b, e)
		}
	}
}

// P9.1: Wide of all lengths, the greatest and the least number of each and those behind them among them.
func TestWide(t *testing.T) {
	for many := 2; many <= 20; many++ {
		for _, n := range someNumbers() {
			b, e := field.Wide(n, many)
			lays(t, n, many, b, e, plainWide(n, many))
		}
	}
	for _, c := range []struct {
		n     int64
		many  int
		field string
	}{
		{16383, 2, "\xbf\xff"}, {-16384, 2, "\xc0\x00"}, {-1, 2, "\xff\xff"}, {0, 2, "\x80\x00"},
		{1<<62 - 1, 8, "\xbf\xff\xff\xff\xff\xff\xff\xff"}, {-1 << 62, 8, "\xc0\x00\x00\x00\x00\x00\x00\x00"},
		{math.MaxInt64, 9, "\x80\x7f\xff\xff\xff\xff\xff\xff\xff"}, {math.MinInt64, 9, "\xff\x80\x00\x00\x00\x00\x00\x00\x00"},
		{-2, 10, "\xff\xff\xff\xff\xff\xff\xff\xff\xff\xfe"},
	} {
		b, e := field.Wide(c.n, c.many)
		lays(t, c.n, c.many, b, e, []byte(c.field))
	}
	for _, c := range []struct {
		n    int64
		many int
	}{{16384, 2}, {-16385, 2}, {1 << 62, 8}, {-1<<62 - 1, 8}, {math.MaxInt64, 8}, {math.MinInt64, 8}} {
		b, e := field.Wide(c.n, c.many)
		lays(t, c.n, c.many, b, e, nil)
	}
}

// P9.1: lengths that may not be are ErrArg, whatever the number, one that would be too long too.
func TestNumbersOfWrongLengths(t *testing.T) {
	for _, many := range []int{math.MinInt, -1, 0, 1, 21, 22, 64, math.MaxInt} {
		for _, n := range someNumbers() {
			if b, e := field.Octal(n, many); e != api.ErrArg || len(b) != 0 {
				t.Errorf("octal %d in %d bytes: %q, %d", n, many, b, e)
			}
			if b, e := field.Wide(n, many); e != api.ErrArg || len(b) != 0 {
				t.Errorf("wide %d in %d bytes: %q, %d", n, many, b, e)
			}
		}
	}
	for _, begin := range []string{"", "0", "9", "\x80", "\x90"} {
		for _, size := range []int{21, 22, 512} {
			b := make([]byte, size)
			copy(b, begin)
			reads(t, b, 0, api.ErrArg)
		}
	}
	reads(t, nil, 0, api.ErrArg)
	reads(t, []byte{}, 0, api.ErrArg)
}

// P9.1: fields in octal, as they are and as they may not be.
func TestReadOctal(t *testing.T) {
	for _, c := range []struct {
		text string
		n    int64
		e    api.Errno
	}{
		{"0", 0, api.OK}, {"7", 7, api.OK}, {"8", 0, api.ErrForm}, {" ", 0, api.OK}, {"\x00", 0, api.OK},
		{"17", 15, api.OK}, {"   17", 15, api.OK}, {"00000017", 15, api.OK}, {"  0017", 15, api.OK},
		{"17 ", 15, api.OK}, {"17\x00", 15, api.OK}, {"17\x00 ", 15, api.OK}, {"17 \x00", 15, api.OK},
		{"17\x009", 15, api.OK}, {"17 9", 15, api.OK}, {"17 1", 15, api.OK}, {"17\x00\xff", 15, api.OK}, {"17 \xff", 15, api.OK},
		{"\x0017", 0, api.OK}, {"\x00x", 0, api.OK}, {" \x00x", 0, api.OK}, {"   \x0017", 0, api.OK},
		{"18", 0, api.ErrForm}, {"17x", 0, api.ErrForm}, {"17x ", 0, api.ErrForm}, {"17\xff", 0, api.ErrForm}, {" \x80", 0, api.ErrForm},
		{"x", 0, api.ErrForm}, {"-1", 0, api.ErrForm}, {"+1", 0, api.ErrForm}, {" -1", 0, api.ErrForm}, {"1/", 0, api.ErrForm},
		{"\t1", 0, api.ErrForm}, {"1\t", 0, api.ErrForm}, {"\n", 0, api.ErrForm}, {"1\n", 0, api.ErrForm}, {"0x1", 0, api.ErrForm}, {"1_0", 0, api.ErrForm},
		{"\x7f", 0, api.ErrForm},
		{"77777777777777777777", 1<<60 - 1, api.OK}, {"40000000000000000000", 1 << 59, api.OK}, {"00000000000000000009", 0, api.ErrForm},
	} {
		reads(t, []byte(c.text), c.n, c.e)
	}
}

// P9.1: every byte ahead of a digit, behind one, and alone.
func TestReadEveryByte(t *testing.T) {
	for x := range 256 {
		b := byte(x)
		digit := b >= '0' && b <= '7'
		own := int64(b) - '0'
		switch {
		case digit:
			reads(t, []byte{b}, own, api.OK)
			reads(t, []byte{b, '1'}, own*8+1, api.OK)
			reads(t, []byte{'1', b}, 8+own, api.OK)
		case b == ' ':
			reads(t, []byte{b}, 0, api.OK)
			reads(t, []byte{b, '1'}, 1, api.OK)
			reads(t, []byte{'1', b}, 1, api.OK)
		case b == 0:
			reads(t, []byte{b}, 0, api.OK)
			reads(t, []byte{b, '1'}, 0, api.OK)
			reads(t, []byte{'1', b}, 1, api.OK)
		case b < 128:
			reads(t, []byte{b}, 0, api.ErrForm)
			reads(t, []byte{b, '1'}, 0, api.ErrForm)
			reads(t, []byte{'1', b}, 0, api.ErrForm)
		default:
			reads(t, []byte{b}, int64(int8(b<<1))/2, api.OK)
			reads(t, []byte{b, '1'}, int64(int8(b<<1))/2*256+'1', api.OK)
			reads(t, []byte{'1', b}, 0, api.ErrForm)
		}
	}
}

// P9.1: fields in base 256 of all lengths, those that are no int64 too.
func TestReadWide(t *testing.T) {
	random := rand.New(rand.NewSource(92))
	met := map[api.Errno]int{}
	for range 20000 {
		b := make([]byte, 1+random.Intn(20))
		random.Read(b)
		// The sign alone ahead: else nothing long would be an int64.
		sign := byte(-random.Intn(2))
		for k := range random.Intn(len(b) + 1) {
			b[k] = sign
		}
		b[0] |= 128
		n, e := plainReadWide(b)
		met[e]++
		reads(t, b, n, e)
	}
	if met[api.OK] < 1000 || met[api.ErrLong] < 1000 {
		t.Error(met)
	}
	for _, c := range []struct {
		field string
		n     int64
		e     api.Errno
	}{
		{"\x80", 0, api.OK}, {"\xff", -1, api.OK}, {"\xbf", 63, api.OK}, {"\xc0", -64, api.OK},
		{"\x80\x7f\xff\xff\xff\xff\xff\xff\xff", math.MaxInt64, api.OK}, {"\x80\x80\x00\x00\x00\x00\x00\x00\x00", 0, api.ErrLong},
		{"\xff\x80\x00\x00\x00\x00\x00\x00\x00", math.MinInt64, api.OK}, {"\xff\x7f\xff\xff\xff\xff\xff\xff\xff", 0, api.ErrLong},
		{"\x81\x00\x00\x00\x00\x00\x00\x00\x00", 0, api.ErrLong}, {"\xfe\xff\xff\xff\xff\xff\xff\xff\xff", 0, api.ErrLong},
		{"\x80\x00\x00\x00\x00\x00\x00\x00\x00\x00\x00\x00\x00\x00\x00\x00\x00\x00\x00\x05", 5, api.OK},
		{"\x80\x01\x00\x00\x00\x00\x00\x00\x00\x00\x00\x00\x00\x00\x00\x00\x00\x00\x00\x05", 0, api.ErrLong},
		{"\xff\xff\xff\xff\xff\xff\xff\xff\xff\xff\xff\xff\xff\xff\xff\xff\xff\xff\xff\xfb", -5, api.OK},
	} {
		reads(t, []byte(c.field), c.n, c.e)
	}
}

// P9.4: Number of Octal, and of Wide, is the number, of all that fit.
func TestNumbersThereAndBack(t *testing.T) {
	for many := 2; many <= 20; many++ {
		for _, n := range someNumbers() {
			if b, e := field.Octal(n, many); e == api.OK {
				reads(t, b, n, api.OK)
			}
			if b, e := field.Wide(n, many); e == api.OK {
				reads(t, b, n, api.OK)
			} else if many > 8 {
				t.Errorf("%d in %d bytes: %d", n, many, e)
			}
		}
	}
}

// P9.1 (R3): what is handed in is only read; what is answered is new memory.
func TestNumbersKeepNothing(t *testing.T) {
	for _, text := range []string{" 17 x", "\x80\x01\x02", "9", "\xfe\xff\xff\xff\xff\xff\xff\xff\xff"} {
		b := []byte(text)
		field.Number(b)
		if string(b) != text {
			t.Errorf("%q is changed to %q", text, b)
		}
	}
	octal, _ := field.Octal(8, 8)
	wide, _ := field.Wide(8, 8)
	for _, b := range [][]byte{octal, wide} {
		b = b[:cap(b)]
		for k := range b {
			b[k] = 'x'
		}
	}
	octal, _ = field.Octal(8, 8)
	wide, _ = field.Wide(8, 8)
	reads(t, octal, 8, api.OK)
	reads(t, wide, 8, api.OK)
}
