package sha

import "portolan/api"

const (
	blockSize = 64
	hashWords = 8
	rounds    = 64
	wordSize  = 4
	countSize = 8
)

// beginning is H0 to H7.
var beginning = [hashWords]uint32{
	0x6a09e667, 0xbb67ae85, 0x3c6ef372, 0xa54ff53a, 0x510e527f, 0x9b05688c, 0x1f83d9ab, 0x5be0cd19,
}

// constants is K0 to K63.
var constants = [rounds]uint32{
	0x428a2f98, 0x71374491, 0xb5c0fbcf, 0xe9b5dba5, 0x3956c25b, 0x59f111f1, 0x923f82a4, 0xab1c5ed5,
	0xd807aa98, 0x12835b01, 0x243185be, 0x550c7dc3, 0x72be5d74, 0x80deb1fe, 0x9bdc06a7, 0xc19bf174,
	0xe49b69c1, 0xefbe4786, 0x0fc19dc6, 0x240ca1cc, 0x2de92c6f, 0x4a7484aa, 0x5cb0a9dc, 0x76f988da,
	0x983e5152, 0xa831c66d, 0xb00327c8, 0xbf597fc7, 0xc6e00bf3, 0xd5a79147, 0x06ca6351, 0x14292967,
	0x27b70a85, 0x2e1b2138, 0x4d2c6dfc, 0x53380d13, 0x650a7354, 0x766a0abb, 0x81c2c92e, 0x92722c85,
	0xa2bfe8a1, 0xa81a664b, 0xc24b8b70, 0xc76c51a3, 0xd192e819, 0xd6990624, 0xf40e3585, 0x106aa070,
	0x19a4c116, 0x1e376c08, 0x2748774c, 0x34b0bcb5, 0x391c0cb3, 0x4ed8aa4a, 0x5b9cca4f, 0x682e6ff3,
	0x748f82ee, 0x78a5636f, 0x84c87814, 0x8cc70208, 0x90befffa, 0xa4506ceb, 0xbef9a3f7, 0xc67178f2,
}

// eachBlock hands the whole blocks of b to press, in order, and answers what is left behind them.
func eachBlock(b []byte, press func(block []byte)) []byte {
	for len(b) >= blockSize {
		press(b[:blockSize])
		b = b[blockSize:]
	}
	return b
}

// ending is what follows count bytes: 80, noughts, and how many bits they have.
func ending(count uint64) []byte {
	whole := 1 + countSize
	over := (int(count%blockSize) + whole) % blockSize
	if over > 0 {
		whole += blockSize - over
	}
	end := make([]byte, whole)
	end[0] = 0x80
	bits := count * 8
	for i := range countSize {
		end[whole-1-i] = byte(bits >> (8 * i))
	}
	return end
}

// press works one block into the hash.
func (s *State) press(block []byte) {
	words := schedule(block)
	a, b, c, d := s.hash[0], s.hash[1], s.hash[2], s.hash[3]
	e, f, g, h := s.hash[4], s.hash[5], s.hash[6], s.hash[7]
	for t := range rounds {
		t1 := h + bigSigma1(e) + (e&f ^ ^e&g) + constants[t] + words[t]
		t2 := bigSigma0(a) + (a&b ^ a&c ^ b&c)
		h, g, f, e, d, c, b, a = g, f, e, d+t1, c, b, a, t1+t2
	}
	s.hash[0] += a
	s.hash[1] += b
	s.hash[2] += c
	s.hash[3] += d
	s.hash[4] += e
	s.hash[5] += f
	s.hash[6] += g
	s.hash[7] += h
}

// schedule is W0 to W63 of a block.
func schedule(block []byte) [rounds]uint32 {
	var w [rounds]uint32
	for t := range blockSize / wordSize {
		w[t] = word(block[wordSize*t:])
	}
	for t := blockSize / wordSize; t < rounds; t++ {
		w[t] = smallSigma1(w[t-2]) + w[t-7] + smallSigma0(w[t-15]) + w[t-16]
	}
	return w
}

// digest is the hash as bytes.
func (s *State) digest() api.Digest {
	var d api.Digest
	for i, h := range s.hash {
		for j := range wordSize {
			d[wordSize*i+j] = byte(h >> (8 * (wordSize - 1 - j)))
		}
	}
	return d
}

func word(b []byte) uint32 {
	return uint32(b[0])<<24 | uint32(b[1])<<16 | uint32(b[2])<<8 | uint32(b[3])
}

func turned(x uint32, k uint) uint32 { return x>>k | x<<(32-k) }

func bigSigma0(x uint32) uint32   { return turned(x, 2) ^ turned(x, 13) ^ turned(x, 22) }
func bigSigma1(x uint32) uint32   { return turned(x, 6) ^ turned(x, 11) ^ turned(x, 25) }
func smallSigma0(x uint32) uint32 { return turned(x, 7) ^ turned(x, 18) ^ x>>3 }
func smallSigma1(x uint32) uint32 { return turned(x, 17) ^ turned(x, 19) ^ x>>10 }
