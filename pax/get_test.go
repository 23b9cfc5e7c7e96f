package pax_test

import (
	"archive/tar"
	"bytes"
	"fmt"
	"math/rand"
	"slices"
	"strconv"
	"strings"
	"testing"

	"portolan/api"
	"portolan/pax"
)

// P10.2: rows of texts, and others, by hand.
func TestGet(t *testing.T) {
	for _, c := range []struct {
		s string
		l []pax.Record
	}{
		{"", nil},
		{"5 k=\n", []pax.Record{{"k", ""}}},
		{"9 path=a\n", []pax.Record{{"path", "a"}}},
		{"9 path=a\n9 path=b\n5 k=\n", []pax.Record{{"path", "a"}, {"path", "b"}, {"k", ""}}},
		{"8 k==\n=\n", []pax.Record{{"k", "=\n="}}},
		{"6 k=\n\n", []pax.Record{{"k", "\n"}}},
		{"7 k k=\n", []pax.Record{{"k k", ""}}},
		{"6  k=\n", []pax.Record{{" k", ""}}},
		{"5  =\n", []pax.Record{{" ", ""}}},
		{"11 k=a\x00c\xff\n\n", []pax.Record{{"k", "a\x00c\xff\n"}}},
	} {
		gets(t, c.s, c.l, api.OK)
	}
}

// P10.2: what is the beginning of texts, and what is not even that, by hand, with whole texts ahead and without.
func TestShortOrForm(t *testing.T) {
	long := strings.Repeat("k", 255)
	for want, l := range map[api.Errno][]string{
		api.ErrShort: {
			"1", "4", "5", "9", "10", "12", "100", "1000", "1000000", "9999999", "1677721", "1677722", "16777216", "16777215", "10000001",
			"5 ", "5 k", "5 k=", "7 kkk", "7 k", "7 k=\n", "7 k=\n\n", "9 k=abc", "11 k", "16777216 ", "16777216 k", "16777216 k=", "16777216 " + long, "16777216 " + long + "=",
			"264 " + long, "261 " + long, "261 " + long + "=", "262 " + long + "==", "9 k=ab\nc", "99 k=\n9 path=a\n",
		},
		api.ErrForm: {
			" ", "\n", "=", "k", "0", "00", "01", "09", "-", "-5", "+5", "5k", "5\n", "5=", "1.", "\x00", "\xff", "0 ", "0 k=\n",
			"1 ", "2 ", "3 ", "4 ", "4 k=", "4 k=\n", "10 ", "100 ", "1000 ", "1000000 ", "10000000", "10000000 ", "16777217", "16777217 ", "16777220", "20000000", "99999999", "100000000", "100000001", "99999999999999999999", strings.Repeat("1", 1000),
			"5 =", "5 \n", "5 \x00", "5 kk", "5 kk=", "5 k=a", "5 k==", "5 k\n\n", "5 =k\n", "7 kkkk", "7 kkkkk", "7 kkk\n\n", "7 k\n", "7 k\x00",
			"9 k=abcde", "9 k=abcd\x00", "9 k=abcde\n", "9 kkkkkk\n", "99 k\n", "99 k\x00=", "99 =", "264 " + long + "k", "264 " + long + "k=", "261 " + long + "==", "260 " + long, "16777216 " + long + "k", "16777216 \n",
			"10 path=a\n", "10 path=a", "10 path=", "10 p", "09 k=ab\n", "9  path=a\n", "9\tpath=a\n", "9 path:a\n", "100 k=" + strings.Repeat("v", 93) + "\n", "-9 path=a\n", "+9 path=a\n", "9path=a\n\n",
		},
	} {
		for _, s := range l {
			gets(t, s, nil, want)
			gets(t, "9 path=a\n"+s, nil, want)
			gets(t, "9 path=a\n5 k=\n"+s, nil, want)
			if _, e := plainGet(s); e != want {
				t.Errorf("the plain reading of %s: %d, not %d", short(s), e, want)
			}
		}
	}
}

// P10.2: each number of digits alone, all of them up to some, and those at the edges.
func TestDigitsAlone(t *testing.T) {
	check := func(n int) {
		want := api.ErrForm
		if n <= api.MaxBlob && plainSizes().begins[n] {
			want = api.ErrShort
		}
		gets(t, strconv.Itoa(n), nil, want)
	}
	for n := range 30000 {
		check(n)
		check(n * 1000)
		check(n + 9990000)
		check(n + 16770000)
	}
}

// P10.2: numbers that ten times over, wrapped round, would be a size are none's digits.
func TestDigitsThatWrap(t *testing.T) {
	const fifth = 0xcccccccccccccccd // times 5, wrapped round, it is 1
	for half := range uint64(1000) {
		for _, high := range []uint64{0, 1 << 63} {
			n := int64(half*fifth + high)
			if n < 0 || n > api.MaxBlob {
				gets(t, strconv.FormatInt(n, 10), nil, api.ErrForm)
				gets(t, strconv.FormatInt(n, 10)+" ", nil, api.ErrForm)
			}
		}
	}
}

// P10.2: more than MaxBlob bytes are ErrLong, whatever they are.
func TestTooLong(t *testing.T) {
	for _, size := range []int{api.MaxBlob + 1, api.MaxBlob + 500, 2 * api.MaxBlob} {
		gets(t, strings.Repeat("5 k=\n", size/5+1)[:size], nil, api.ErrLong)
		gets(t, strings.Repeat("x", size), nil, api.ErrLong)
		gets(t, fmt.Sprint(size)+" k="+strings.Repeat("v", size-4-len(fmt.Sprint(size)))+"\n", nil, api.ErrLong)
	}
}

// P10.2: the most bytes that there may be, as records of the least texts, as one, cut short, and as nothing that may be.
func TestMostBytesRead(t *testing.T) {
	least := strings.Repeat("5 k=\n", api.MaxBlob/5)
	gets(t, least, slices.Repeat([]pax.Record{{"k", ""}}, api.MaxBlob/5), api.OK)
	gets(t, least+"5", nil, api.ErrShort)
	gets(t, least+"x", nil, api.ErrForm)
	one := "16777216 k=" + strings.Repeat("v", api.MaxBlob-12) + "\n"
	gets(t, one, []pax.Record{{"k", one[11 : api.MaxBlob-1]}}, api.OK)
	gets(t, one[:api.MaxBlob-1], nil, api.ErrShort)
	gets(t, one[:api.MaxBlob-1]+"v", nil, api.ErrForm)
	// Behind others it is a text, too, though not all of it can be there.
	gets(t, "9 path=a\n"+one[:api.MaxBlob-9], nil, api.ErrShort)
	for _, x := range []string{"1", " ", "k", "=", "\n", "\x00"} {
		gets(t, strings.Repeat(x, api.MaxBlob), nil, api.ErrForm)
		gets(t, "16777216 "+strings.Repeat(x, api.MaxBlob-9), nil, api.ErrForm)
	}
}

// P10.2: all short rows of a few signs, against the chapter in its plainest reading.
func TestAllShortRows(t *testing.T) {
	const signs = "0156 k=\n"
	met := map[api.Errno]int{}
	var try func(s string)
	try = func(s string) {
		l, e := plainGet(s)
		gets(t, s, l, e)
		met[e]++
		// No row goes on from one that is not even a beginning.
		if len(s) == 7 || e == api.ErrForm {
			return
		}
		for k := range len(signs) {
			try(s + signs[k:k+1])
		}
	}
	try("")
	if met[api.OK] < 10 || met[api.ErrShort] < 100 || met[api.ErrForm] < 100 {
		t.Error(met)
	}
}

// P10.2: texts with bytes changed, taken out, put in, and cut off, against the chapter in its plainest reading.
func TestSpoiltTexts(t *testing.T) {
	random := rand.New(rand.NewSource(102))
	met := map[api.Errno]int{}
	for range 30000 {
		s := plainTexts(anyRecords(random, 4)) + plainText(anyRecord(random))
		for range 1 + random.Intn(2) {
			at := random.Intn(len(s) + 1)
			sign := string([]byte{byte(random.Intn(256)), "0123456789"[random.Intn(10)], " =\n\x00"[random.Intn(4)]})[random.Intn(3):][:1]
			switch random.Intn(4) {
			case 0:
				s = s[:at] + sign + s[min(len(s), at+1):]
			case 1:
				s = s[:at] + sign + s[at:]
			case 2:
				s = s[:at] + s[min(len(s), at+1):]
			case 3:
				s = s[:at]
			}
		}
		l, e := plainGet(s)
		gets(t, s, l, e)
		met[e]++
	}
	if met[api.OK] < 500 || met[api.ErrShort] < 500 || met[api.ErrForm] < 500 {
		t.Error(met)
	}
}

// P10.4: Get of what Put tells are the records; Put of what Get tells is the bytes.
func TestThereAndBack(t *testing.T) {
	random := rand.New(rand.NewSource(103))
	for range 3000 {
		l := anyRecords(random, 10)
		b, e := pax.Put(l...)
		if e != api.OK {
			t.Fatalf("%q: %d", l, e)
		}
		gets(t, string(b), l, api.OK)
	}
	for range 3000 {
		s := plainTexts(anyRecords(random, 4)) + fmt.Sprintf("%d k=%s\n", 5+random.Intn(10), someText(random, random.Intn(6)))
		if l, e := pax.Get([]byte(s)); e == api.OK {
			puts(t, l, s)
		}
	}
}

// P10.5: cut short anywhere, texts are fewer records, or ErrShort.
func TestCutShort(t *testing.T) {
	random := rand.New(rand.NewSource(104))
	for range 300 {
		l := append(anyRecords(random, 4), anyRecord(random))
		s := plainTexts(l)
		ends := map[int]int{0: 0}
		for k := range l {
			ends[len(plainTexts(l[:k+1]))] = k + 1
		}
		for n := range s {
			if many, whole := ends[n]; whole {
				gets(t, s[:n], l[:many], api.OK)
			} else {
				gets(t, s[:n], nil, api.ErrShort)
			}
		}
	}
	for many := 1; many <= 255; many += 127 {
		for _, size := range []int{0, 1, 90, 1000} {
			s := plainText(pax.Record{Key: strings.Repeat("k", many), Value: strings.Repeat("=", size)})
			for n := 1; n < len(s); n++ {
				gets(t, s[:n], nil, api.ErrShort)
			}
		}
	}
}

// P10.1, P10.2: the library lays the same texts.
func TestLibraryLays(t *testing.T) {
	for many := range 1200 {
		r := pax.Record{Key: "SOME.key", Value: strings.Repeat("v", many+1)}
		var file bytes.Buffer
		w := tar.NewWriter(&file)
		err := w.WriteHeader(&tar.Header{Name: "a", Typeflag: tar.TypeReg, Format: tar.FormatPAX, PAXRecords: map[string]string{r.Key: r.Value}})
		if err != nil {
			t.Fatal(err)
		}
		b, e := pax.Put(r)
		if e != api.OK || !bytes.HasPrefix(file.Bytes()[512:], append(b, 0)) && len(b)%512 != 0 || !bytes.HasPrefix(file.Bytes()[512:], b) {
			t.Errorf("a value of %d bytes: %s, %d", many+1, short(string(b)), e)
		}
	}
}
