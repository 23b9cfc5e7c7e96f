package match_test

import (
	"bytes"
	"math/rand"
	"slices"
	"testing"

	"portolan/api"
	"portolan/match"
)

// manyRows tells rows of all kinds, some of them longer than a copy reaches.
func manyRows() [][]byte {
	random := rand.New(rand.NewSource(53))
	rows := [][]byte{nil, {0}, make([]byte, 40000), apart("abcdefgh", 32768), bytes.Repeat([]byte("abcabd"), 12000)}
	for range 60 {
		rows = append(rows, anyBytes(random, random.Intn(3000)))
	}
	// Pieces that come again at about the farthest distance.
	old := make([]byte, 33000)
	random.Read(old)
	again := slices.Clone(old)
	for k := 0; k < len(again); k += 1 + random.Intn(300) {
		again[k]++
	}
	rows = append(rows, slices.Concat(old[:32760], again), slices.Concat(old[:32768], again), slices.Concat(old[:32772], again))
	return rows
}

// P5.3: Expand of Cut is the bytes, and the steps may be; each copy tells what stands there, and is the best one found.
func TestThereAndBack(t *testing.T) {
	for k, b := range manyRows() {
		for _, d := range []int{1, 7, 64, 32768} {
			l, e := match.Cut(b, d)
			if e != api.OK || !match.May(l) || match.Size(l) != len(b) {
				t.Fatalf("row %d by %d: %d; may it be: %v; %d bytes of %d", k, d, e, match.May(l), match.Size(l), len(b))
			}
			if got, e := match.Expand(l, len(b)); !bytes.Equal(got, b) || e != api.OK {
				t.Fatalf("row %d by %d: %d, or other bytes", k, d, e)
			}
			checkCopies(t, b, l, d)
		}
	}
}

// checkCopies holds each copy of a row of steps against the chapter's words and against Best, and each literal against its byte.
func checkCopies(t *testing.T, b []byte, l []match.Step, d int) {
	t.Helper()
	at := 0
	for k, s := range l {
		if s.Long == 0 {
			if s != (match.Step{Byte: b[at]}) {
				t.Fatalf("step %d, at %d: %v", k, at, s)
			}
			at++
			continue
		}
		if !bytes.Equal(b[at:at+s.Long], b[at-s.Far:at-s.Far+s.Long]) {
			t.Fatalf("step %d, at %d: %v tells something else", k, at, s)
		}
		if got, found := match.Best(b, at, d); got != s || !found {
			t.Fatalf("step %d, at %d by %d: %v, but Best is %v, %v", k, at, d, s, got, found)
		}
		if want, _ := bestOf(b, at, d); k%16 == 0 && s != want {
			t.Fatalf("step %d, at %d by %d: %v, want %v", k, at, d, s, want)
		}
		at += s.Long
	}
}

// P5.4: with more chains the best one found is no shorter.
func TestMoreChains(t *testing.T) {
	random := rand.New(rand.NewSource(55))
	longer := 0
	for range 60 {
		b := anyBytes(random, random.Intn(2000))
		for range 40 {
			at, last := random.Intn(len(b)+1), match.Step{}
			for _, d := range []int{0, 1, 2, 3, 5, 9, 64, 500, 32768} {
				found, there := match.Best(b, at, d)
				if found.Long < last.Long || there != (found.Long > 0) {
					t.Fatalf("at %d of %q by %d: %v, %v behind %v", at, b, d, found, there, last)
				}
				if last.Long > 0 && found.Long > last.Long {
					longer++
				}
				last = found
			}
		}
	}
	if longer == 0 {
		t.Error("no row has a longer match behind the nearest ones")
	}
}
