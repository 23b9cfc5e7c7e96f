package deflate_test

import (
	"bytes"
	"encoding/hex"
	"math"
	"math/rand"
	"slices"
	"strconv"
	"strings"
	"testing"

	"portolan/api"
	"portolan/deflate"
	"portolan/inflate"
	"portolan/match"
)

func literals(text string) []match.Step {
	var l []match.Step
	for _, x := range []byte(text) {
		l = append(l, match.Step{Byte: x})
	}
	return l
}

func copied(long, far int) match.Step { return match.Step{Long: long, Far: far} }

func someBytes(random *rand.Rand, many, letters int) []byte {
	b := make([]byte, many)
	for k := range b {
		b[k] = byte(random.Intn(letters) * 37)
	}
	return b
}

// anySteps is steps that may be; one of so many is a literal, and copies reach some way back.
func anySteps(random *rand.Rand, many int) []match.Step {
	var l []match.Step
	rare, letters := 1+random.Intn(8), 1+random.Intn(256)
	long, far := 1+random.Intn(256), 1<<random.Intn(16)
	for at := 0; len(l) < many; at += max(1, l[len(l)-1].Long) {
		if at == 0 || random.Intn(rare) == 0 {
			l = append(l, match.Step{Byte: byte(random.Intn(letters))})
			continue
		}
		l = append(l, copied(3+random.Intn(long), 1+random.Intn(min(far, at))))
	}
	return l
}

func kindsOf(t *testing.T, b []byte) []int {
	t.Helper()
	blocks, e := inflate.Blocks(b, api.MaxBlob)
	if e != api.OK {
		t.Fatalf("blocks: %d", e)
	}
	var kinds []int
	for _, k := range blocks {
		kinds = append(kinds, k.Kind)
	}
	return kinds
}

// streamAsPlain holds Steps against the chapter, and tells the kinds of the blocks.
func streamAsPlain(t *testing.T, l []match.Step) []int {
	t.Helper()
	b, e := deflate.Steps(l)
	want, kinds := plainStream(l)
	if !bytes.Equal(b, want) || e != api.OK {
		t.Fatalf("%d steps: %x, %d; not %x", len(l), b, e, want)
	}
	if got := kindsOf(t, b); !slices.Equal(got, kinds) {
		t.Fatalf("kinds %v; not %v", got, kinds)
	}
	return kinds
}

// P7.1: the chapter's examples, and a few more streams, laid by hand.
func TestExamples(t *testing.T) {
	cases := []struct{ text, stream string }{
		{"", "0300"},
		{"a", "4b0400"},
		{"ab", "4b4c0200"},
		{"aaaaa", "4b040100"},
	}
	for _, c := range cases {
		b, e := deflate.All([]byte(c.text))
		if hex.EncodeToString(b) != c.stream || e != api.OK {
			t.Errorf("%q: %x, %d", c.text, b, e)
		}
	}
}

// P7.1: without a step there is one empty block; nil and empty are one.
func TestNoSteps(t *testing.T) {
	for _, none := range [][]match.Step{nil, {}} {
		if b, e := deflate.Steps(none); !bytes.Equal(b, []byte{3, 0}) || e != api.OK {
			t.Errorf("no steps: %x, %d", b, e)
		}
		if sizes := sizesAsPlain(t, none); sizes[0] != 40 || sizes[1] != 10 {
			t.Errorf("no steps: %v", sizes)
		}
	}
	for _, none := range [][]byte{nil, {}} {
		if b, e := deflate.All(none); !bytes.Equal(b, []byte{3, 0}) || e != api.OK {
			t.Errorf("no bytes: %x, %d", b, e)
		}
	}
}

// P7.1, P7.2: steps of many kinds are told as the chapter is read, in all three ways.
func TestAnySteps(t *testing.T) {
	random := rand.New(rand.NewSource(71))
	seen := [3]int{}
	for range 500 {
		l := anySteps(random, random.Intn(1<<random.Intn(12)))
		if random.Intn(5) == 0 {
			l = literals(string(someBytes(random, random.Intn(1500), 256)))
		}
		sizesAsPlain(t, l)
		for _, kind := range streamAsPlain(t, l) {
			seen[kind]++
		}
	}
	if slices.Min(seen[:]) < 50 {
		t.Errorf("kinds: %v", seen)
	}
}

// P7.1: a literal's other field tells nothing.
func TestLiteralsFar(t *testing.T) {
	b, e := deflate.Steps([]match.Step{{Byte: 'a', Far: 7}})
	if !bytes.Equal(b, []byte{0x4b, 4, 0}) || e != api.OK {
		t.Errorf("%x, %d", b, e)
	}
}

// P7.1: All is Steps of what match cuts by chains of 64.
func TestAllIsSteps(t *testing.T) {
	random := rand.New(rand.NewSource(72))
	apart := 0
	for range 100 {
		b := someBytes(random, random.Intn(1<<random.Intn(15)), 2+random.Intn(3))
		l, _ := match.Cut(b, deflate.Chain)
		all, e := deflate.All(b)
		steps, se := deflate.Steps(l)
		want, _ := plainStream(l)
		if !bytes.Equal(all, want) || !bytes.Equal(steps, want) || e != api.OK || se != api.OK {
			t.Fatalf("%d bytes: %d, %d", len(b), e, se)
		}
		for _, d := range []int{63, 65} {
			other, _ := match.Cut(b, d)
			if !slices.Equal(l, other) {
				apart++
			}
		}
	}
	if deflate.Chain != 64 || apart < 5 {
		t.Errorf("other chains made a difference %d times", apart)
	}
}

// P7.1: each 512 steps are a block; none stands behind them, if there are no more.
func TestParts(t *testing.T) {
	random := rand.New(rand.NewSource(73))
	for many, blocks := range map[int]int{1: 1, 511: 1, 512: 1, 513: 2, 1023: 2, 1024: 2, 1025: 3, 5120: 10} {
		l := anySteps(random, many)
		if kinds := streamAsPlain(t, l); len(kinds) != blocks {
			t.Errorf("%d steps: %d blocks", many, len(kinds))
		}
		b, _ := deflate.Steps(l)
		got, e := inflate.Blocks(b, api.MaxBlob)
		for k, block := range got {
			to := match.Size(l[:min(many, 512*(k+1))])
			if block.To != to || block.Last != (k == blocks-1) {
				t.Errorf("%d steps, block %d: %v, %d", many, k, block, e)
			}
		}
	}
	if deflate.Parts != 512 {
		t.Error(deflate.Parts)
	}
}

// P7.1: of equal ones stored stands ahead of fixed, fixed ahead of dynamic.
func TestTies(t *testing.T) {
	random := rand.New(rand.NewSource(74))
	met := map[[2]int]int{}
	for range 30000 {
		l := literals(string(someBytes(random, 20+random.Intn(60), 8+random.Intn(248))))
		stored, fixed, dynamic, _ := deflate.Sizes(l)
		var tie [2]int
		switch {
		case stored == fixed && fixed < dynamic:
			tie = [2]int{0, 1}
		case stored == dynamic && dynamic < fixed:
			tie = [2]int{0, 2}
		case fixed == dynamic && fixed < stored:
			tie = [2]int{1, 2}
		default:
			continue
		}
		met[tie]++
		if kinds := streamAsPlain(t, l); kinds[0] != tie[0] {
			t.Errorf("%v: %v", tie, kinds)
		}
	}
	if met[[2]int{0, 1}] < 50 || met[[2]int{0, 2}] < 3 || met[[2]int{1, 2}] < 5 {
		t.Errorf("ties: %v", met)
	}
}

// P7.1: how long a stored block is hangs on where it stands.
func TestStoredWhereItStands(t *testing.T) {
	random := rand.New(rand.NewSource(75))
	turned := 0
	for range 300 {
		ahead := anySteps(random, 512)
		l := literals(string(someBytes(random, 20+random.Intn(60), 40+random.Intn(216))))
		kinds := streamAsPlain(t, append(ahead, l...))
		stored, fixed, dynamic, _ := deflate.Sizes(l)
		if (stored <= min(fixed, dynamic)) != (kinds[1] == 0) {
			turned++
		}
	}
	if turned < 3 {
		t.Errorf("it made a difference %d times", turned)
	}
}

// P7.2: codes are as long as 15 bits, where there are steps enough for that.
func TestLongestCodes(t *testing.T) {
	// Counts that rise by themselves, from 1 1 2 3 on, make codes of all lengths; the sign at the end is the first of them.
	byBytes := []match.Step{{Byte: 255}}
	byFars := append(literals("a"), copied(258, 1), copied(258, 1))
	for a, b, k := 1, 2, 17; k >= 0; a, b, k = b, a+b, k-1 {
		far, _ := strconv.Atoi(strings.Fields("1 2 3 4 5 7 9 13 17 25 33 49 65 97 129 193 257 385")[k])
		byBytes = append(byBytes, slices.Repeat([]match.Step{{Byte: byte(k)}}, b)...)
		byFars = append(byFars, slices.Repeat([]match.Step{copied(3, far)}, a)...)
	}
	for _, l := range [][]match.Step{byBytes, byFars} {
		sizesAsPlain(t, l)
		streamAsPlain(t, l)
	}
}

// P7.1, P7.2: a block of more than 65535 bytes is not stored.
func TestMostStored(t *testing.T) {
	random := rand.New(rand.NewSource(76))
	l := literals(string(someBytes(random, 65535, 256)))
	if sizes := sizesAsPlain(t, l); sizes[0] != 40+8*65535 {
		t.Errorf("65535 bytes: %v", sizes)
	}
	for _, more := range []match.Step{{Byte: 1}, copied(3, 1), copied(258, 30000)} {
		if sizes := sizesAsPlain(t, append(l, more)); sizes[0] != 0 {
			t.Errorf("more: %v", sizes)
		}
	}
	// Copies make that much out of few steps.
	few := append(literals("a"), slices.Repeat([]match.Step{copied(258, 1)}, 254)...)
	few = append(few, copied(3, 1))
	if sizes := sizesAsPlain(t, few); sizes[0] != 0 {
		t.Errorf("few steps of %d bytes: %v", match.Size(few), sizes)
	}
	few[255] = copied(258, 1)
	streamAsPlain(t, slices.Concat(few, few[1:], few[1:]))
}

// P7.1, P7.2: the greatest size of all.
func TestLong(t *testing.T) {
	b := make([]byte, api.MaxBlob+1)
	if out, e := deflate.All(b); out != nil || e != api.ErrLong {
		t.Errorf("a byte too many: %d, %d", len(out), e)
	}
	b = b[1:]
	out, e := deflate.All(b)
	if back, _, ie := inflate.All(out, len(b)); !bytes.Equal(back, b) || e != api.OK || ie != api.OK {
		t.Errorf("%d bytes, %d, %d", len(back), e, ie)
	}
	l := append(literals("a"), slices.Repeat([]match.Step{copied(255, 1)}, (api.MaxBlob-1)/255)...)
	if match.Size(l) != api.MaxBlob {
		t.Fatal(match.Size(l))
	}
	out, e = deflate.Steps(l)
	if back, _, ie := inflate.All(out, len(b)); len(back) != len(b) || e != api.OK || ie != api.OK {
		t.Errorf("%d bytes, %d, %d", len(back), e, ie)
	}
	if stored, fixed, dynamic, e := deflate.Sizes(l); stored != 0 || fixed <= dynamic || dynamic == 0 || e != api.OK {
		t.Errorf("%d %d %d, %d", stored, fixed, dynamic, e)
	}
	refused(t, "a literal too many", append(l, match.Step{}), api.ErrLong)
	refused(t, "a copy too many", append(l, copied(3, 1)), api.ErrLong)
	refused(t, "too many, and one that may not be", append(l, copied(2, 1), copied(3, 1)), api.ErrArg)
}

// refused holds both calls of steps against an error.
func refused(t *testing.T, what string, l []match.Step, want api.Errno) {
	t.Helper()
	if b, e := deflate.Steps(l); b != nil || e != want {
		t.Errorf("%s: %x, %d", what, b, e)
	}
	if stored, fixed, dynamic, e := deflate.Sizes(l); stored != 0 || fixed != 0 || dynamic != 0 || e != want {
		t.Errorf("%s: %d %d %d, %d", what, stored, fixed, dynamic, e)
	}
}

// P7.1, P7.2: steps that may not be.
func TestMayNotBe(t *testing.T) {
	for _, last := range []match.Step{
		copied(3, 5), copied(3, 0), copied(3, -1), copied(2, 1), copied(1, 1), copied(-1, 1), copied(259, 1),
		copied(math.MaxInt, 1), copied(math.MinInt, 1), {Long: 3, Far: 1, Byte: 1},
	} {
		refused(t, "the last one", append(literals("abcd"), last), api.ErrArg)
		refused(t, "the only one", []match.Step{last}, api.ErrArg)
	}
	far := append(literals("a"), slices.Repeat([]match.Step{copied(258, 1)}, 200)...)
	refused(t, "too far", append(far, copied(3, 32769)), api.ErrArg)
	sizesAsPlain(t, append(far, copied(3, 32768)))
	streamAsPlain(t, append(far, copied(3, 32768)))
}

// P7.3: each length, and what is none.
func TestLongSigns(t *testing.T) {
	for n := 3; n <= 258; n++ {
		sign, bits, more := deflate.Long(n)
		want, told := longSign(n)
		if sign != want || asNumber(more, bits) != told {
			t.Errorf("%d: %d, %d, %d", n, sign, bits, more)
		}
	}
	for n, want := range map[int][3]int{3: {257}, 10: {264}, 11: {265, 1}, 12: {265, 1, 1}, 257: {284, 5, 30}, 258: {285}, 130: {280, 4, 15}, 131: {281, 5}} {
		if sign, bits, more := deflate.Long(n); [3]int{sign, bits, more} != want {
			t.Errorf("%d: %d, %d, %d", n, sign, bits, more)
		}
	}
	for _, n := range []int{2, 1, 0, -1, 259, 260, 1 << 40, math.MaxInt, math.MinInt} {
		if sign, bits, more := deflate.Long(n); sign != 0 || bits != 0 || more != 0 {
			t.Errorf("%d: %d, %d, %d", n, sign, bits, more)
		}
	}
}

// P7.3: each distance, and what is none.
func TestFarSigns(t *testing.T) {
	for n := 1; n <= 32768; n++ {
		sign, bits, more := deflate.Far(n)
		want, told := farSign(n)
		if sign != want || asNumber(more, bits) != told {
			t.Errorf("%d: %d, %d, %d", n, sign, bits, more)
		}
	}
	for n, want := range map[int][3]int{1: {}, 4: {3}, 5: {4, 1}, 6: {4, 1, 1}, 32768: {29, 13, 8191}, 24577: {29, 13}, 24576: {28, 13, 8191}} {
		if sign, bits, more := deflate.Far(n); [3]int{sign, bits, more} != want {
			t.Errorf("%d: %d, %d, %d", n, sign, bits, more)
		}
	}
	for _, n := range []int{0, -1, 32769, 1 << 40, math.MaxInt, math.MinInt} {
		if sign, bits, more := deflate.Far(n); sign != 0 || bits != 0 || more != 0 {
			t.Errorf("%d: %d, %d, %d", n, sign, bits, more)
		}
	}
}
