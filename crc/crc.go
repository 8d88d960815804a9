// Package crc is layer 2, checksums CRC-32C: see shared/doc/02-crc.md.
package crc

// polynomial is the divisor: bit 31 stands for x to the power of 0, bit 0 for x to the power of 31.
const polynomial = 0x82f63b78

// halves has what four steps make of a register with these lowest four bits alone; a table for whole bytes would exceed what the language rules allow.
var halves = [16]uint32{
	0x00000000, 0x105ec76f, 0x20bd8ede, 0x30e349b1,
	0x417b1dbc, 0x5125dad3, 0x61c69362, 0x7198540d,
	0x82f63b78, 0x92a8fc17, 0xa24bb5a6, 0xb21572c9,
	0xc38d26c4, 0xd3d3e1ab, 0xe330a81a, 0xf36e6f75,
}

// Of: the checksum of s.
func Of(s string) uint32 {
	return More(0, s)
}

// More: the checksum of a text of this sum, followed by s.
func More(sum uint32, s string) uint32 {
	register := ^sum
	for i := range len(s) {
		register ^= uint32(s[i])
		register = register>>4 ^ halves[register&0xf]
		register = register>>4 ^ halves[register&0xf]
	}
	return ^register
}

// Pass: the register v after n zero bytes.
func Pass(v uint32, n int) uint32 {
	// A zero byte multiplies the register by x to the power of 8. Squaring keeps the call short for any n.
	factor := uint32(1) << (31 - 8)
	for ; n > 0; n >>= 1 {
		if n&1 == 1 {
			v = product(v, factor)
		}
		factor = product(factor, factor)
	}
	return v
}

// Join: the checksum of two texts, one after the other, from their sums and the length of the second one.
func Join(first, second uint32, n int) uint32 {
	return Pass(first, n) ^ second
}

// product multiplies two registers as polynomials, modulo the divisor.
func product(a, b uint32) uint32 {
	var sum uint32
	for ; a != 0; a <<= 1 {
		if a>>31 == 1 {
			sum ^= b
		}
		b = step(b)
	}
	return sum
}

// step shifts the register by one zero bit.
func step(register uint32) uint32 {
	if register&1 == 1 {
		return register>>1 ^ polynomial
	}
	return register >> 1
}
