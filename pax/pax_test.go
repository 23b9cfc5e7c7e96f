package pax_test

import (
	"fmt"
	"math"
	"math/rand"
	"slices"
	"strings"
	"testing"

	"portolan/api"
	"portolan/pax"
)

// wrong are records that may not be.
func wrong() []pax.Record {
	l := []pax.Record{{}, {"", "a"}, {strings.Repeat("k", 256), ""}, {strings.Repeat("k", 5000), "a"}}
	for _, sign := range []string{"\x00", "=", "\n"} {
		for _, key := range []string{sign, "k" + sign, sign + "k", "k" + sign + "k", strings.Repeat("k", 254) + sign} {
			l = append(l, pax.Record{Key: key, Value: "a"})
		}
	}
	return l
}

// P10.1, P10.2: the chapter's examples.
func TestExamples(t *testing.T) {
	puts(t, []pax.Record{{"path", "a"}}, "9 path=a\n")
	gets(t, "9 k=abc", nil, api.ErrShort)
	gets(t, "09 k=ab\n", nil, api.ErrForm)
	gets(t, "10 path=a\n", nil, api.ErrForm)
}

// P10.1: the sizes of texts around each number of digits, and those that no text has.
func TestSizes(t *testing.T) {
	met := map[int]int{}
	for many := range 1100 {
		r := pax.Record{Key: "k", Value: strings.Repeat("v", many)}
		puts(t, []pax.Record{r}, plainText(r))
		met[pax.Size(r)]++
	}
	for size := 1; size < 1100; size++ {
		want := 1
		if size < 5 || size == 10 || size == 100 || size == 1000 {
			want = 0
		}
		if met[size] != want {
			t.Errorf("%d records have %d bytes", met[size], size)
		}
	}
	for _, c := range []struct{ value, size int }{
		{4, 9}, {5, 11}, {93, 99}, {94, 101}, {992, 999}, {993, 1001}, {9991, 9999}, {9992, 10001}, {99990, 99999}, {99991, 100001},
		{999989, 999999}, {999990, 1000001}, {9999988, 9999999}, {9999989, 10000001}, {99999987, 99999999}, {99999988, 100000001},
	} {
		if size := pax.Size(pax.Record{Key: "k", Value: strings.Repeat("v", c.value)}); size != c.size {
			t.Errorf("a value of %d bytes: %d, not %d", c.value, size, c.size)
		}
	}
}

// P10.1: keys of all lengths, and of every byte that may be.
func TestKeys(t *testing.T) {
	for many := 1; many <= 255; many++ {
		r := pax.Record{Key: strings.Repeat("\xff", many), Value: "a"}
		puts(t, []pax.Record{r}, plainText(r))
	}
	for x := range 256 {
		for _, form := range []string{"%s", "k%s", "%sk"} {
			r := pax.Record{Key: fmt.Sprintf(form, string([]byte{byte(x)})), Value: "a"}
			if want := plainText(r); want != "" {
				puts(t, []pax.Record{r}, want)
			} else if x != 0 && x != '=' && x != '\n' || pax.Size(r) != 0 {
				t.Errorf("the byte %d: %d", x, pax.Size(r))
			}
		}
	}
}

// P10.1: values are any bytes.
func TestValues(t *testing.T) {
	for _, value := range []string{"", "=", "\n", "\x00", " ", "a=b\n", "9 path=a\n", "\n\n\n", "\xff\xfe", strings.Repeat("\n", 100000)} {
		r := pax.Record{Key: "k", Value: value}
		puts(t, []pax.Record{r}, plainText(r))
	}
}

// P10.1: records that may not be have no size, and are refused by ErrArg, wherever they stand, ahead of ErrLong.
func TestWrongRecords(t *testing.T) {
	good := pax.Record{Key: "path", Value: "a"}
	long := pax.Record{Key: "path", Value: strings.Repeat("a", api.MaxBlob)}
	for _, r := range wrong() {
		if size := pax.Size(r); size != 0 {
			t.Errorf("%q: size %d", r.Key, size)
		}
		refusesPut(t, []pax.Record{r}, api.ErrArg)
		refusesPut(t, []pax.Record{r, good}, api.ErrArg)
		refusesPut(t, []pax.Record{good, r}, api.ErrArg)
		refusesPut(t, []pax.Record{good, r, good}, api.ErrArg)
		refusesPut(t, []pax.Record{long, r}, api.ErrArg)
		refusesPut(t, []pax.Record{r, long}, api.ErrArg)
	}
}

// P10.1: texts one behind the other, also of none, and of the same key twice.
func TestPut(t *testing.T) {
	puts(t, nil, "")
	puts(t, []pax.Record{}, "")
	puts(t, []pax.Record{{"path", "a"}, {"path", "a"}, {"k", ""}, {"mtime", "-1"}}, "9 path=a\n9 path=a\n5 k=\n12 mtime=-1\n")
	random := rand.New(rand.NewSource(101))
	for range 300 {
		l := anyRecords(random, 8)
		puts(t, l, plainTexts(l))
	}
}

// P10.1: just MaxBlob bytes in all are put; one more is ErrLong, of one record and of many.
func TestMostBytes(t *testing.T) {
	fill := strings.Repeat("v", api.MaxBlob+100)
	sizes := func(most int) [][]pax.Record {
		rest := most
		var l []pax.Record
		for range 1000 {
			l = append(l, pax.Record{Key: "path", Value: fill[:5000]})
			rest -= 5011
		}
		return [][]pax.Record{
			{{"k", fill[:most-12]}},
			{{"path", "a"}, {"k", fill[:most-12-9]}},
			{{"k", fill[:most-12-9]}, {"path", "a"}},
			append(l, pax.Record{Key: "k", Value: fill[:rest-12]}),
		}
	}
	for _, l := range sizes(api.MaxBlob) {
		b, e := pax.Put(l...)
		if len(b) != api.MaxBlob || e != api.OK {
			t.Fatalf("%d records: %d bytes, %d", len(l), len(b), e)
		}
		gets(t, string(b), l, api.OK)
	}
	for _, l := range sizes(api.MaxBlob + 1) {
		refusesPut(t, l, api.ErrLong)
	}
	if size := pax.Size(pax.Record{Key: "k", Value: fill}); size != len(fill)+12 {
		t.Errorf("a longer one: %d", size)
	}
	// Many that share one long value: nothing so great is made.
	refusesPut(t, slices.Repeat([]pax.Record{{"k", fill}}, 100000), api.ErrLong)
}

// P10.3: the last one of a key, others and empty values beside it.
func TestLast(t *testing.T) {
	l := []pax.Record{{"path", "a"}, {"k", "1"}, {"path", "b"}, {"k", ""}, {"paths", "c"}, {"Path", "d"}, {"", "e"}, {"x=y", "f"}}
	for _, c := range []struct {
		key, value string
		there      bool
	}{
		{"path", "b", true}, {"k", "", true}, {"paths", "c", true}, {"Path", "d", true}, {"x=y", "f", true}, {"", "e", true},
		{"pat", "", false}, {"PATH", "", false}, {"path ", "", false}, {"path\x00", "", false}, {"a", "", false},
	} {
		if value, there := pax.Last(l, c.key); value != c.value || there != c.there {
			t.Errorf("%q: %q, %t", c.key, value, there)
		}
	}
	for _, none := range [][]pax.Record{nil, {}, {{"a", "b"}}} {
		for _, key := range []string{"", "path", "b"} {
			if value, there := pax.Last(none, key); value != "" || there {
				t.Errorf("%q of %v: %q, %t", key, none, value, there)
			}
		}
	}
}

// P10.3: numbers and their texts, all edges of bits and of digits among them.
func TestNumbers(t *testing.T) {
	l := []int64{0, math.MaxInt64, math.MinInt64, math.MinInt64 + 1}
	for k, ten := 0, int64(1); k < 63; k++ {
		edge := int64(1) << k
		l = append(l, edge, edge-1, -edge, -edge-1, ten, ten-1, ten+1, -ten, 1-ten)
		if ten < math.MaxInt64/10 {
			ten *= 10
		}
	}
	for _, n := range l {
		text := pax.Text(n)
		if text != fmt.Sprint(n) {
			t.Errorf("%d: %q", n, text)
		}
		if back, is := pax.Number(text); back != n || !is {
			t.Errorf("%q: %d, %t", text, back, is)
		}
		bare := strings.TrimPrefix(text, "-")
		sign := strings.TrimSuffix(text, bare)
		for _, other := range []string{sign + "0" + bare, "+" + bare, " " + text, text + " ", text + "\n", text + "\x00", "--" + bare, sign + " " + bare, text + ".0", text + "_0", text + "e0", "0x" + text} {
			notNumber(t, other)
		}
	}
}

func notNumber(t *testing.T, s string) {
	t.Helper()
	if n, is := pax.Number(s); n != 0 || is {
		t.Errorf("%.50q: %d, %t", s, n, is)
	}
}

// P10.3: texts of no number.
func TestNoNumbers(t *testing.T) {
	for _, s := range []string{
		"", "-", "+", "-0", "+0", "00", "-00", "01", "-01", "--1", "1-", "a", "1a", "a1", "0x1", "0b1", "0o1", "1_0", "1.", ".1", "1e1", "١", "\xff", "\x00", "inf", "1,000",
		"9223372036854775808", "-9223372036854775809", "18446744073709551615", "18446744073709551616", "99999999999999999999", "-99999999999999999999",
		strings.Repeat("1", 1000), strings.Repeat("0", 1000), strings.Repeat("1", 1<<24), "-" + strings.Repeat("9", 100000),
	} {
		notNumber(t, s)
	}
	for x := range 256 {
		s := string([]byte{byte(x)})
		n, is := pax.Number(s)
		digit := x >= '0' && x <= '9'
		if is != digit || digit && n != int64(x-'0') || !digit && n != 0 {
			t.Errorf("%q: %d, %t", s, n, is)
		}
	}
}

// P10.1 (R3): what is handed in is only read; what is answered is new memory.
func TestKeepsNothing(t *testing.T) {
	l := []pax.Record{{"path", "a"}, {"k", "abc"}}
	b, _ := pax.Put(l...)
	if l[0] != (pax.Record{Key: "path", Value: "a"}) || l[1] != (pax.Record{Key: "k", Value: "abc"}) {
		t.Error("changed")
	}
	clear(b[:cap(b)])
	puts(t, l, "9 path=a\n8 k=abc\n")

	b = []byte("9 path=a\n8 k=abc\n")
	l, _ = pax.Get(b)
	clear(b)
	if !slices.Equal(l, []pax.Record{{"path", "a"}, {"k", "abc"}}) {
		t.Errorf("what was handed in is kept: %q", l)
	}
	clear(l[:cap(l)])
	gets(t, "9 path=a\n8 k=abc\n", []pax.Record{{"path", "a"}, {"k", "abc"}}, api.OK)
}
