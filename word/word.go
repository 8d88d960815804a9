// Package word is layer 1, operations on the bits of numbers: see shared/doc/01-word.md.
package word

import "math/bits"

// size is how many bits a number has.
const size = 64

// Low: the lowest n bits (0 to 64; others: the nearest of these).
func Low(v uint64, n int) uint64 {
	if n <= 0 {
		return 0
	}
	if n >= size {
		return v
	}
	return v & (1<<n - 1)
}

// Signed: the lowest n bits (1 to 64; others: the nearest of these) as a two's complement number.
func Signed(v uint64, n int) int64 {
	unused := size - min(max(n, 1), size)
	return int64(v<<unused) >> unused
}

// Bit: is bit n set? There are bits 0 to 63 only.
func Bit(v uint64, n int) bool {
	return isBit(n) && v>>n&1 == 1
}

// With: v with bit n set, if there is such a bit.
func With(v uint64, n int) uint64 {
	if !isBit(n) {
		return v
	}
	return v | 1<<n
}

// Field: n bits of v from bit at on.
func Field(v uint64, at, n int) uint64 {
	if !isBit(at) {
		return 0
	}
	return Low(v>>at, n)
}

// Lay: v with the lowest n bits of x from bit at on, as far as there are bits.
func Lay(v uint64, at, n int, x uint64) uint64 {
	if !isBit(at) {
		return v
	}
	mask := Low(1<<size-1, n) << at
	return v&^mask | x<<at&mask
}

// Turn: v rotated left by n bits, right if n is below 0.
func Turn(v uint64, n int) uint64 {
	return bits.RotateLeft64(v, n)
}

// Turn32: v rotated left by n bits, right if n is below 0.
func Turn32(v uint32, n int) uint32 {
	return bits.RotateLeft32(v, n)
}

// Left: v shifted left by the lowest six bits of n.
func Left(v, n uint64) uint64 {
	return v << (n % size)
}

// Right: v shifted right by the lowest six bits of n.
func Right(v, n uint64) uint64 {
	return v >> (n % size)
}

// Count: how many bits are set.
func Count(v uint64) int {
	return bits.OnesCount64(v)
}

// First: the lowest bit that is set; 64: none.
func First(v uint64) int {
	return bits.TrailingZeros64(v)
}

// Swap: the eight bytes in reverse.
func Swap(v uint64) uint64 {
	var reversed uint64
	for i := range size / 8 {
		reversed = reversed<<8 | Field(v, 8*i, 8)
	}
	return reversed
}

// Bytes: the lowest n bytes (0 to 8; others: the nearest of these), the least significant first.
func Bytes(v uint64, n int) string {
	n = min(max(n, 0), size/8)
	list := make([]byte, n)
	for i := range n {
		list[i] = byte(v >> (8 * i))
	}
	return string(list)
}

// Number: that of at most 8 bytes, the least significant first; of more the first 8.
func Number(s string) uint64 {
	var v uint64
	for i := range min(len(s), size/8) {
		v |= uint64(s[i]) << (8 * i)
	}
	return v
}

// Narrow: v as n bytes (1, 2, 4; others: 8) hold it, without and with a sign.
func Narrow(v uint64, n int) (uint64, int64) {
	if n != 1 && n != 2 && n != 4 {
		n = size / 8
	}
	return Low(v, 8*n), Signed(v, 8*n)
}

// Fold: 2n, or -2n - 1 for n below 0, so that numbers near 0 stay small.
func Fold(n int64) uint64 {
	// The shift of a signed number by 63 repeats its sign in all bits.
	return uint64(n)<<1 ^ uint64(n>>(size-1))
}

// Unfold: the number that Fold folded.
func Unfold(v uint64) int64 {
	return int64(v>>1) ^ -int64(v&1)
}

// isBit guards shifts: one by a number below 0 would panic.
func isBit(n int) bool {
	return 0 <= n && n < size
}
