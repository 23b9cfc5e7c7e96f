package inflate_test

import (
	"bytes"
	"compress/flate"
	"math/rand"
	"slices"
	"sync"
	"testing"

	"portolan/api"
	"portolan/huff"
	"portolan/inflate"
	"portolan/match"
)

// plain is the chapter read in the plainest way, bit by bit and byte by byte: streams that are anything at all are held against it.
type plain struct {
	row    row
	at     int
	most   int
	out    []byte
	blocks []inflate.Block
}

// plainly is what All and Blocks answer.
func plainly(b []byte, most int) (out []byte, used int, l []inflate.Block, e api.Errno) {
	if most < 0 {
		return nil, 0, nil, api.ErrArg
	}
	p := &plain{most: most}
	p.row.bytes(b...)
	defer func() {
		if why := recover(); why != nil {
			out, used, l, e = nil, 0, nil, why.(api.Errno)
		}
	}()
	for !p.block() {
	}
	return p.out, (p.at + 7) / 8, p.blocks, api.OK
}

func (p *plain) get(many int) int {
	n := 0
	for k := range many {
		if p.at == len(p.row) {
			panic(api.ErrShort)
		}
		n += int(p.row[p.at]) << k
		p.at++
	}
	return n
}

var fixedMaps = sync.OnceValues(func() (signs, distances map[string]int) {
	of, apart := fixedLengths()
	return mapped(of), mapped(apart)
})

// mapped tells symbols by their codes.
func mapped(lens []int) map[string]int {
	sum, coded, codes := 0, 0, map[string]int{}
	for symbol, code := range codesOf(lens) {
		if lens[symbol] > 0 {
			codes[code] = symbol
			sum += 1 << (15 - lens[symbol])
			coded++
		}
	}
	if sum != 1<<15 && coded != 0 && (coded != 1 || sum != 1<<14) {
		panic(api.ErrCode)
	}
	return codes
}

func (p *plain) next(codes map[string]int) int {
	many := 15
	if len(codes) < 2 {
		many = 1
	}
	var code []byte
	for range many {
		code = append(code, byte('0'+p.get(1)))
		if symbol, is := codes[string(code)]; is {
			return symbol
		}
	}
	panic(api.ErrCode)
}

func (p *plain) put(x byte) {
	if len(p.out) == p.most {
		panic(api.ErrCap)
	}
	p.out = append(p.out, x)
}

func (p *plain) block() bool {
	last, kind, from := p.get(1) == 1, p.get(2), len(p.out)
	switch kind {
	case 0:
		for p.at%8 != 0 {
			p.at++
		}
		many := p.get(16)
		if p.get(16)+many != 65535 {
			panic(api.ErrCode)
		}
		for range many {
			p.put(byte(p.get(8)))
		}
	case 1:
		p.steps(fixedMaps())
	case 2:
		p.steps(p.own())
	case 3:
		panic(api.ErrCode)
	}
	p.blocks = append(p.blocks, inflate.Block{Kind: kind, Last: last, From: from, To: len(p.out)})
	return last
}

func (p *plain) own() (signs, distances map[string]int) {
	many, apart, tellers := p.get(5)+257, p.get(5)+1, p.get(4)+4
	if many > 286 || apart > 30 {
		panic(api.ErrCode)
	}
	lens := make([]int, 19)
	for k := range tellers {
		lens[tellerOrder[k]] = p.get(3)
	}
	codes := mapped(lens)
	var all []int
	for len(all) < many+apart {
		switch sign := p.next(codes); sign {
		case 16:
			times := 3 + p.get(2)
			if len(all) == 0 {
				panic(api.ErrCode)
			}
			all = append(all, same(times, all[len(all)-1])...)
		case 17:
			all = append(all, same(3+p.get(3), 0)...)
		case 18:
			all = append(all, same(11+p.get(7), 0)...)
		default:
			all = append(all, sign)
		}
	}
	if len(all) > many+apart || all[256] == 0 {
		panic(api.ErrCode)
	}
	return mapped(all[:many]), mapped(all[many:])
}

func (p *plain) steps(signs, distances map[string]int) {
	for {
		sign := p.next(signs)
		if sign == 256 {
			return
		}
		if sign < 256 {
			p.put(byte(sign))
			continue
		}
		if sign > 285 {
			panic(api.ErrCode)
		}
		long := longs[sign-257][0] + p.get(longs[sign-257][1])
		sign = p.next(distances)
		if sign > 29 {
			panic(api.ErrCode)
		}
		far := fars[sign][0] + p.get(fars[sign][1])
		if far > len(p.out) {
			panic(api.ErrCode)
		}
		for range long {
			p.put(p.out[len(p.out)-far])
		}
	}
}

// asPlain holds All and Blocks against the chapter.
func asPlain(t *testing.T, b []byte, most int) api.Errno {
	t.Helper()
	out, used, e := inflate.All(b, most)
	l, be := inflate.Blocks(b, most)
	wantOut, wantUsed, wantBlocks, want := plainly(b, most)
	if e != want || be != want || used != wantUsed || !bytes.Equal(out, wantOut) || !slices.Equal(l, wantBlocks) {
		t.Fatalf("%x, at most %d: %d bytes, %d used, %d blocks, errors %d %d; not %d bytes, %d used, %d blocks, error %d",
			b, most, len(out), used, len(l), e, be, len(wantOut), wantUsed, len(wantBlocks), want)
	}
	return e
}

// anyFull tells lengths that are full, of as many symbols, of which a few have none.
func anyFull(random *rand.Rand, symbols int, must ...int) []int {
	counts := make([]int, symbols)
	for k := range counts {
		if random.Intn(4) > 0 {
			counts[k] = 1 << random.Intn(14)
		}
	}
	for _, k := range must {
		counts[k] = 1
	}
	lens, _ := huff.Lengths(counts, 15)
	return lens
}

// has tells if a step can be told.
func (c coder) has(s match.Step) bool {
	if s.Long == 0 {
		return c.signs[s.Byte] != ""
	}
	long, far := 257+signOf(longs, s.Long), signOf(fars, s.Far)
	return long < len(c.signs) && far < len(c.distances) && c.signs[long] != "" && c.distances[far] != ""
}

// anySteps tells steps that may stand behind so many bytes, and have codes.
func anySteps(random *rand.Rand, at, many int, c coder) []match.Step {
	var l []match.Step
	for len(l) < many {
		s := match.Step{Byte: byte(random.Intn(256))}
		if at > 0 && random.Intn(3) == 0 {
			s = copied(3+random.Intn(min(256, 1<<random.Intn(9))), 1+random.Intn(min(at, 1<<random.Intn(16))))
		}
		if !c.has(s) {
			continue
		}
		l = append(l, s)
		at += max(1, s.Long)
	}
	return l
}

// anyStream tells a stream of a few blocks, what goes out of it, and its blocks.
func anyStream(random *rand.Rand, most int) (b, out []byte, l []inflate.Block) {
	var r row
	var all []match.Step
	blocks := 1 + random.Intn(5)
	for k := range blocks {
		last, from := k == blocks-1, match.Size(all)
		kind := random.Intn(3)
		var steps []match.Step
		switch kind {
		case 0:
			steps = literals(string(someBytes(random.Intn(most))))
			var b []byte
			for _, s := range steps {
				b = append(b, s.Byte)
			}
			r.stored(last, b)
		case 1:
			steps = anySteps(random, from, random.Intn(most), fixedCoder())
			r.fixed(last, steps...)
		case 2:
			// The sign of a byte has a length, so that there are steps.
			signs, distances := anyFull(random, 257+random.Intn(30), 'a', 256), anyFull(random, 1+random.Intn(30))
			steps = anySteps(random, from, random.Intn(most), coderOf(signs, distances))
			r.dynamic(last, signs, distances, steps...)
		}
		all = append(all, steps...)
		l = append(l, inflate.Block{Kind: kind, Last: last, From: from, To: match.Size(all)})
	}
	out, _ = match.Expand(all, plenty)
	return r.inBytes(), out, l
}

// P6.1, P6.2: streams of which a few bits are turned, or the end is cut, by any caps, are answered as the chapter is read.
func TestChangedStreams(t *testing.T) {
	random := rand.New(rand.NewSource(61))
	seen := map[api.Errno]int{}
	for range 3000 {
		b, out, _ := anyStream(random, 12)
		for range random.Intn(4) {
			k := random.Intn(len(b))
			if random.Intn(2) == 0 {
				k = random.Intn(min(len(b), 20))
			}
			b[k] ^= 1 << random.Intn(8)
		}
		if random.Intn(3) == 0 {
			b = b[:random.Intn(len(b)+1)]
		}
		most := plenty
		if random.Intn(2) == 0 {
			most = random.Intn(len(out) + 10)
		}
		seen[asPlain(t, b, most)]++
	}
	for _, e := range []api.Errno{api.OK, api.ErrShort, api.ErrCode, api.ErrCap} {
		if seen[e] < 100 {
			t.Errorf("error %d was met %d times", e, seen[e])
		}
	}
}

// P6.1, P6.2: bytes that are anything at all.
func TestAnyBytes(t *testing.T) {
	random := rand.New(rand.NewSource(62))
	for range 20000 {
		b := make([]byte, random.Intn(80))
		random.Read(b)
		if len(b) > 0 && random.Intn(2) == 0 {
			b[0] = b[0]&^6 | byte(2*random.Intn(3))
		}
		asPlain(t, b, random.Intn(300))
	}
}

// P6.1: all streams of two bytes, and what a third one may be.
func TestAllShortStreams(t *testing.T) {
	for n := range 1 << 16 {
		b := []byte{byte(n), byte(n >> 8)}
		asPlain(t, b, 1)
		asPlain(t, append(b, byte(n*7)), 2)
	}
}

// P6.1, P6.2: what the library's own writer pressed, in all its ways; its reader refuses what is refused here.
func TestLibrarysStreams(t *testing.T) {
	random := rand.New(rand.NewSource(63))
	for level := flate.HuffmanOnly; level <= flate.BestCompression; level++ {
		for _, n := range []int{0, 1, 100, 5000, 70000} {
			for _, letters := range []int{1, 3, 30, 256} {
				text := make([]byte, n)
				for k := range text {
					text[k] = byte(random.Intn(letters))
				}
				var pressed bytes.Buffer
				w, _ := flate.NewWriter(&pressed, level)
				w.Write(text[:n/2])
				w.Flush()
				w.Write(text[n/2:])
				w.Close()
				goes(t, "pressed by the library", pressed.Bytes(), text)
				if e := asPlain(t, pressed.Bytes()[:pressed.Len()*2/3], plenty); e != api.ErrShort {
					t.Errorf("cut short: %d", e)
				}
			}
		}
	}
}

// P6.1: a stream of many blocks, from which more goes out than any distance reaches.
func TestLongStream(t *testing.T) {
	random := rand.New(rand.NewSource(64))
	text := make([]byte, 3<<20)
	for k := range text {
		text[k] = byte(random.Intn(1 + k>>14))
	}
	var pressed bytes.Buffer
	w, _ := flate.NewWriter(&pressed, flate.BestSpeed)
	w.Write(text)
	w.Close()
	goes(t, "long", pressed.Bytes(), text)
	l, e := inflate.Blocks(pressed.Bytes(), len(text))
	if e != api.OK || len(l) < 10 || l[len(l)-1].To != len(text) {
		t.Errorf("%d blocks, %d", len(l), e)
	}
	fails(t, "long, by one byte less", pressed.Bytes(), len(text)-1, api.ErrCap)
}
