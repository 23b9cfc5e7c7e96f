package crc

const (
	polynomial = 0xedb88320
	width      = 32
	top        = 1 << (width - 1)
)

// As a polynomial over two elements a register has x^0 in its top bit and x^31 in its lowest one: a step multiplies it by x.
const (
	one     = top
	oneByte = top >> 8
)

// fourSteps is what four bits that fall out turn into the register.
var fourSteps = [16]uint32{
	0x00000000, 0x1db71064, 0x3b6e20c8, 0x26d930ac, 0x76dc4190, 0x6b6b51f4, 0x4db26158, 0x5005713c,
	0xedb88320, 0xf00f9344, 0xd6d6a3e8, 0xcb61b38c, 0x9b64c2b0, 0x86d3d2d4, 0xa00ae278, 0xbdbdf21c,
}

// behind is the register behind the bytes of b.
func behind(register uint32, b []byte) uint32 {
	for _, x := range b {
		register ^= uint32(x)
		register = register>>4 ^ fourSteps[register&15]
		register = register>>4 ^ fourSteps[register&15]
	}
	return register
}

// step moves the register down by one bit.
func step(register uint32) uint32 {
	if register&1 == 0 {
		return register >> 1
	}
	return register>>1 ^ polynomial
}

// stepBack is the register that step leads here from: the polynomial has a top bit, so this one tells what fell out.
func stepBack(register uint32) uint32 {
	if register&top == 0 {
		return register << 1
	}
	return (register^polynomial)<<1 | 1
}

// backFour takes back the steps of four bytes.
func backFour(register uint32) uint32 {
	for range width {
		register = stepBack(register)
	}
	return register
}

// product multiplies two registers as polynomials.
func product(a, b uint32) uint32 {
	var sum uint32
	for a != 0 {
		if a&top != 0 {
			sum ^= b
		}
		a <<= 1
		b = step(b)
	}
	return sum
}

// zeroBytes is what n bytes 0 multiply a register by; it is squared up, as n may be too great for a walk of n steps.
func zeroBytes(n int) uint32 {
	var factor, power uint32 = one, oneByte
	for ; n > 0; n >>= 1 {
		if n&1 == 1 {
			factor = product(factor, power)
		}
		power = product(power, power)
	}
	return factor
}
