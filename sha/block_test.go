package sha

import (
	"math/big"
	"testing"
)

func primes(many int) []int64 {
	var l []int64
next:
	for n := int64(2); len(l) < many; n++ {
		for _, p := range l {
			if n%p == 0 {
				continue next
			}
		}
		l = append(l, n)
	}
	return l
}

// behindPoint is the first 32 bits behind the point of p's root of that degree: the greatest r with r^degree <= p * 2^(32 degree), cut.
func behindPoint(p int64, degree int) uint32 {
	bound := new(big.Int).Lsh(big.NewInt(p), uint(32*degree))
	low, high := uint64(0), uint64(1)<<40
	for low+1 < high {
		mid := (low + high) / 2
		power := new(big.Int).Exp(new(big.Int).SetUint64(mid), big.NewInt(int64(degree)), nil)
		if power.Cmp(bound) <= 0 {
			low = mid
		} else {
			high = mid
		}
	}
	return uint32(low)
}

// P1.1: the tables that are written out are what the chapter's Words make of the primes.
func TestTablesAreRootsOfPrimes(t *testing.T) {
	l := primes(rounds)
	for i, k := range constants {
		if k != behindPoint(l[i], 3) {
			t.Errorf("K%d is %x", i, k)
		}
	}
	for i, h := range beginning {
		if h != behindPoint(l[i], 2) {
			t.Errorf("H%d is %x", i, h)
		}
	}
}

// P1.1: as few noughts as may be, and the count of bits with its highest byte first, also where no test can take as many bytes.
func TestEnding(t *testing.T) {
	for _, count := range []uint64{0, 1, 54, 55, 56, 57, 63, 64, 119, 120, 1 << 33, 0x0123456789abcdef >> 3} {
		end := ending(count)
		if (count+uint64(len(end)))%blockSize != 0 || len(end) < 9 || len(end) >= 9+blockSize {
			t.Errorf("%d bytes behind %d", len(end), count)
		}
		var bits uint64
		for _, b := range end[len(end)-8:] {
			bits = bits<<8 | uint64(b)
		}
		if end[0] != 0x80 || bits != 8*count {
			t.Errorf("behind %d: %x", count, end)
		}
		for _, b := range end[1 : len(end)-8] {
			if b != 0 {
				t.Errorf("behind %d: %x", count, end)
			}
		}
	}
}
