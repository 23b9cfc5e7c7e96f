package match_test

import (
	"bytes"
	"math"
	"math/rand"
	"slices"
	"testing"

	"portolan/api"
	"portolan/match"
)

// bestOf is the chapter's words for the best match found by chains of d, as plain as can be.
func bestOf(b []byte, at, d int) (match.Step, bool) {
	var found match.Step
	places := 0
	for far := 1; far <= min(at, 32768) && places < d; far++ {
		long := 0
		for long < 258 && at+long < len(b) && b[at+long-far] == b[at+long] {
			long++
		}
		if long < 3 {
			continue
		}
		places++
		if long > found.Long {
			found = match.Step{Long: long, Far: far}
		}
	}
	return found, found.Long > 0
}

// stepsOf is the chapter's words for how bytes are cut, as plain as can be.
func stepsOf(b []byte, d int) []match.Step {
	var l []match.Step
	for at := 0; at < len(b); {
		found, there := bestOf(b, at, d)
		if there && at+1 < len(b) {
			next, _ := bestOf(b, at+1, d)
			there = next.Long <= found.Long
		}
		if there {
			l = append(l, found)
			at += found.Long
		} else {
			l = append(l, match.Step{Byte: b[at]})
			at++
		}
	}
	return l
}

// eachRow hands all rows of up to n bytes on, of so many letters.
func eachRow(n, letters int, take func(b []byte)) {
	var grow func(b []byte)
	grow = func(b []byte) {
		take(b)
		if len(b) == n {
			return
		}
		for k := range letters {
			grow(append(slices.Clone(b), byte('a'+k)))
		}
	}
	grow(nil)
}

// anyBytes tells n bytes of one kind or another: few letters or many, pieces that come again, runs.
func anyBytes(random *rand.Rand, n int) []byte {
	var b []byte
	letters := []int{2, 4, 20, 256}[random.Intn(4)]
	for len(b) < n {
		switch random.Intn(4) {
		case 0:
			if len(b) > 0 {
				from := random.Intn(len(b))
				b = append(b, b[from:min(len(b), from+random.Intn(300))]...)
			}
		case 1:
			b = append(b, bytes.Repeat([]byte{byte(random.Intn(letters))}, random.Intn(20))...)
		default:
			b = append(b, byte(random.Intn(letters)))
		}
	}
	return b[:n]
}

// apart is a text, and again so far behind, with bytes 0 between.
func apart(text string, far int) []byte {
	return slices.Concat([]byte(text), make([]byte, far-len(text)), []byte(text))
}

// P5.2: the chapter's examples.
func TestCutOfExamples(t *testing.T) {
	cases := []struct {
		text string
		want []match.Step
	}{
		{"aaaaa", row(literals("a"), copied(4, 1))},
		{"abcabcd", row(literals("abc"), copied(3, 3), literals("d"))},
		{"abcbcdabcd", row(literals("abcbcd"), copied(3, 6), literals("d"))},
	}
	for _, c := range cases {
		if got, e := match.Cut([]byte(c.text), 8); !slices.Equal(got, c.want) || e != api.OK {
			t.Errorf("%s: %v, %d, want %v", c.text, got, e, c.want)
		}
	}
}

// P5.2: rows whose steps are known: no match, short rows, the longest copy, a longer match one place on, fewer places looked at.
func TestCut(t *testing.T) {
	cases := []struct {
		name string
		b    []byte
		d    int
		want []match.Step
	}{
		{"nothing", nil, 1, nil},
		{"empty", []byte{}, 32768, nil},
		{"one", []byte("a"), 8, literals("a")},
		{"two", []byte("aa"), 8, literals("aa")},
		{"three", []byte("aaa"), 8, literals("aaa")},
		{"four", []byte("aaaa"), 8, row(literals("a"), copied(3, 1))},
		{"bytes 0", []byte{0, 0, 0, 0}, 8, row(literals("\x00"), copied(3, 1))},
		{"two come again", []byte("abcab"), 8, literals("abcab")},
		{"259 of one", bytes.Repeat([]byte("a"), 259), 8, row(literals("a"), copied(258, 1))},
		{"260 of one", bytes.Repeat([]byte("a"), 260), 8, row(literals("a"), copied(258, 1), literals("a"))},
		{"262 of one", bytes.Repeat([]byte("a"), 262), 1, row(literals("a"), copied(258, 1), copied(3, 1))},
		{"longer one place on", []byte("abcXbcdeYabcde"), 8, row(literals("abcXbcdeYa"), copied(4, 6))},
		{"as long one place on", []byte("abcXbcdYabcd"), 8, row(literals("abcXbcdY"), copied(3, 8), literals("d"))},
		{"longer two places on alone", []byte("abcXcdefgYabcdefg"), 8, row(literals("abcXcdefgY"), copied(3, 10), copied(4, 8))},
		{"longer and longer", []byte("abcXbcdeYcdefgZabcdefg"), 8, row(literals("abcXbcdeY"), copied(3, 4), literals("fgZab"), copied(5, 8))},
		{"the nearest of equal ones", []byte("abcXabcYabc"), 8, row(literals("abcX"), copied(3, 4), literals("Y"), copied(3, 4))},
		{"the longest one is third", []byte("abcdXabcYabcZabcd"), 3, row(literals("abcdX"), copied(3, 5), literals("Y"), copied(3, 4), literals("Z"), copied(4, 13))},
		{"the longest one is not looked at", []byte("abcdXabcYabcZabcd"), 2, row(literals("abcdX"), copied(3, 5), literals("Y"), copied(3, 4), literals("Z"), copied(3, 4), literals("d"))},
	}
	for _, c := range cases {
		if got, e := match.Cut(c.b, c.d); !slices.Equal(got, c.want) || e != api.OK {
			t.Errorf("%s: %v, %d, want %v", c.name, got, e, c.want)
		}
	}
}

// P5.2: chains of 1 to 32768; others are refused, of whatever bytes.
func TestCutByWrongChains(t *testing.T) {
	for _, b := range [][]byte{nil, []byte("a"), []byte("abcabcabc")} {
		for _, d := range []int{0, -1, math.MinInt, 32769, 65536 + 1, 1 << 32, math.MaxInt} {
			if l, e := match.Cut(b, d); len(l) != 0 || e != api.ErrArg {
				t.Errorf("%q by %d: %v, %d", b, d, l, e)
			}
		}
		for _, d := range []int{1, 2, 32767, 32768} {
			if l, e := match.Cut(b, d); !slices.Equal(l, stepsOf(b, d)) || e != api.OK {
				t.Errorf("%q by %d: %v, %d", b, d, l, e)
			}
		}
	}
}

// P5.2: all short rows of few letters, held against the chapter's words, at each place and by each number of chains.
func TestAllShortRows(t *testing.T) {
	for letters, n := range map[int]int{1: 12, 2: 12, 3: 8} {
		eachRow(n, letters, func(b []byte) {
			for _, d := range []int{1, 2, 3, 32768} {
				if got, e := match.Cut(b, d); !slices.Equal(got, stepsOf(b, d)) || e != api.OK {
					t.Fatalf("%s by %d: %v, %d, want %v", b, d, got, e, stepsOf(b, d))
				}
				for at := range b {
					checkBest(t, b, at, d)
				}
			}
		})
	}
}

func checkBest(t *testing.T, b []byte, at, d int) {
	t.Helper()
	want, there := bestOf(b, at, d)
	if got, found := match.Best(b, at, d); got != want || found != there {
		t.Fatalf("at %d of %q by %d: %v, %v, want %v, %v", at, b, d, got, found, want, there)
	}
}

// P5.2: long rows of all kinds, held against the chapter's words.
func TestLongRows(t *testing.T) {
	random := rand.New(rand.NewSource(52))
	for range 150 {
		b := anyBytes(random, random.Intn(1500))
		d := 1 + random.Intn([]int{3, 64, 32768}[random.Intn(3)])
		if got, e := match.Cut(b, d); !slices.Equal(got, stepsOf(b, d)) || e != api.OK {
			t.Fatalf("%q by %d: %v, %d, want %v", b, d, got, e, stepsOf(b, d))
		}
		for at := range b {
			if at%7 == 0 {
				checkBest(t, b, at, d)
			}
		}
	}
}

// P5.2: a match is found as far as 32768 away, and no farther, whatever is nearer.
func TestReach(t *testing.T) {
	for far, want := range map[int]bool{4: true, 5: true, 32766: true, 32767: true, 32768: true, 32769: false, 32770: false, 65536: false, 65536 + 8: false, 98304: false} {
		b := apart("abcd", far)
		got, found := match.Best(b, far, 8)
		if found != want || want && got != (match.Step{Long: 4, Far: far}) || !want && got != (match.Step{}) {
			t.Errorf("%d away: %v, %v", far, got, found)
		}
		behind := literals("abcd")
		if want {
			behind = copied(4, far)
		}
		l, e := match.Cut(b, 8)
		if e != api.OK || !slices.Equal(l[len(l)-len(behind):], behind) {
			t.Errorf("%d away: %v, %d", far, l[len(l)-len(behind):], e)
		}
	}
	// The nearest one is shorter; the longest one is out of reach, or just not.
	for far, want := range map[int]match.Step{32768: {Long: 8, Far: 32768}, 32769: {Long: 3, Far: 100}} {
		b := apart("abcdefgh", far)
		copy(b[far-100:], "abcX")
		if got, found := match.Best(b, far, 8); got != want || !found {
			t.Errorf("the longest %d away: %v, %v", far, got, found)
		}
		l, e := match.Cut(b, 8)
		if e != api.OK || !slices.Contains(l, want) {
			t.Errorf("the longest %d away is not among the steps, %d", far, e)
		}
	}
}

// P5.2: the places of a chain are those with the same three bytes alone, the nearest first; d of them are looked at.
func TestBestLooksAtSoManyPlaces(t *testing.T) {
	b := []byte("abcdefgh;abcdef;abcde;abX;abcd;abY;abc;abcdefgh")
	at := bytes.LastIndex(b, []byte("abcdefgh"))
	for d, long := range []int{0, 3, 4, 5, 6, 8, 8, 8} {
		want, there := match.Step{}, d > 0
		if there {
			want = match.Step{Long: long, Far: at - bytes.Index(b, append(b[at:at+long:at+long], ";"...))}
		}
		if got, found := match.Best(b, at, d); got != want || found != there {
			t.Errorf("by %d: %v, %v, want %v, %v", d, got, found, want, there)
		}
	}
}

// P5.2: of equal ones the nearest; none longer than 258, and none behind the end.
func TestBestOfEqualAndLongOnes(t *testing.T) {
	cases := []struct {
		b    []byte
		at   int
		want match.Step
	}{
		{[]byte("abcXabcYabcZ"), 8, match.Step{Long: 3, Far: 4}},
		{[]byte("aaaaaaaa"), 1, match.Step{Long: 7, Far: 1}},
		{[]byte("aaaaaaaa"), 5, match.Step{Long: 3, Far: 1}},
		{[]byte("abababab"), 2, match.Step{Long: 6, Far: 2}},
		{[]byte("abababab"), 4, match.Step{Long: 4, Far: 2}},
		{bytes.Repeat([]byte("a"), 258), 1, match.Step{Long: 257, Far: 1}},
		{bytes.Repeat([]byte("a"), 259), 1, match.Step{Long: 258, Far: 1}},
		{bytes.Repeat([]byte("a"), 900), 300, match.Step{Long: 258, Far: 1}},
		{bytes.Repeat([]byte("abc"), 300), 450, match.Step{Long: 258, Far: 3}},
	}
	for _, c := range cases {
		for _, d := range []int{1, 8, 32768, math.MaxInt} {
			if got, found := match.Best(c.b, c.at, d); got != c.want || !found {
				t.Errorf("at %d of %q by %d: %v, %v, want %v", c.at, c.b, d, got, found, c.want)
			}
		}
	}
}

// P5.2: nothing at what is no place, by no chains, at the first place, and where fewer than three bytes are left.
func TestBestOfNothing(t *testing.T) {
	b := []byte("abcabcabc")
	cases := []struct {
		b     []byte
		at, d int
	}{
		{nil, 0, 8}, {[]byte{}, 0, 8}, {nil, -1, 8}, {nil, 1, 8}, {nil, 0, 0},
		{b, -1, 8}, {b, -3, 8}, {b, math.MinInt, 8}, {b, 9, 8}, {b, 10, 8}, {b, 1 << 32, 8}, {b, math.MaxInt, 8},
		{b, 3, 0}, {b, 3, -1}, {b, 3, math.MinInt},
		{b, 0, 8}, {b, 1, 8}, {b, 2, 8}, {b, 7, 8}, {b, 8, 8},
		{[]byte("a"), 0, 8}, {[]byte("aa"), 1, 8}, {[]byte("aaa"), 1, 8}, {[]byte("abcabX"), 3, 8},
	}
	for _, c := range cases {
		if got, found := match.Best(c.b, c.at, c.d); found || got != (match.Step{}) {
			t.Errorf("at %d of %q by %d: %v, %v", c.at, c.b, c.d, got, found)
		}
	}
	for _, at := range []int{3, 4, 5, 6} {
		if _, found := match.Best(b, at, 1); !found {
			t.Errorf("nothing at %d", at)
		}
	}
}

// P5.2 (R3): bytes are only read; what is answered is new each time.
func TestCutKeepsNothing(t *testing.T) {
	b := []byte("abcabcabcXabc")
	was := bytes.Clone(b)
	first, _ := match.Cut(b, 8)
	match.Best(b, 3, 8)
	if !bytes.Equal(b, was) {
		t.Fatal("the bytes were changed")
	}
	want := slices.Clone(first)
	clear(first[:cap(first)])
	if again, e := match.Cut(b, 8); !slices.Equal(again, want) || e != api.OK {
		t.Errorf("%v, %d, want %v", again, e, want)
	}
}
