package crc_test

import (
	"fmt"
	"hash/crc32"
	"math"
	"math/bits"
	"strings"
	"testing"

	"ordeal/crc"
)

// zeros shifts a register by zero bits as the chapter says, bit by bit.
func zeros(register uint32, count int) uint32 {
	for range count {
		low := register & 1
		register >>= 1
		if low == 1 {
			register ^= 0x82f63b78
		}
	}
	return register
}

// defined is the checksum as the chapter defines it, bit by bit, from any checksum on.
func defined(before uint32, s string) uint32 {
	register := ^before
	for i := range len(s) {
		for bit := range 8 {
			register ^= uint32(s[i] >> bit & 1)
			register = zeros(register, 1)
		}
	}
	return ^register
}

// texts are strings of many lengths, with every byte in them.
func texts() []string {
	list := []string{"", "\x00", "\xff", "a", "123456789", "\u00e9\u4e16", strings.Repeat("\xff", 32)}
	var all []byte
	for i := range 256 {
		all = append(all, byte(i))
		list = append(list, string([]byte{byte(i)}))
	}
	list = append(list, string(all))
	x := uint32(2463534242)
	for length := range 70 {
		s := make([]byte, length)
		for i := range s {
			x ^= x << 13
			x ^= x >> 17
			x ^= x << 5
			s[i] = byte(x)
		}
		list = append(list, string(s))
	}
	return list
}

// registers are each single bit, and some of several bits.
func registers() []uint32 {
	list := []uint32{0, 5, 77, 0x82f63b78, 0xdeadbeef, math.MaxUint32}
	for i := range 32 {
		list = append(list, 1<<i)
	}
	return list
}

// flipped is s with its bits from bit at on xored with those of pattern.
func flipped(s string, at int, pattern uint32) string {
	list := []byte(s)
	for i := range 32 {
		if pattern>>i&1 == 1 {
			list[(at+i)/8] ^= 1 << ((at + i) % 8)
		}
	}
	return string(list)
}

// P2.1: Of, against published checksums.
func TestOfPublished(t *testing.T) {
	var up, down []byte
	for i := range 32 {
		up, down = append(up, byte(i)), append(down, byte(31-i))
	}
	for _, c := range []struct {
		s    string
		want uint32
	}{
		{"", 0},
		{"a", 0xc1d04330},
		{"123456789", 0xe3069283},
		{strings.Repeat("\x00", 32), 0x8a9136aa},
		{strings.Repeat("\xff", 32), 0x62a8ab43},
		{string(up), 0x46dd794e},
		{string(down), 0x113fdb5c},
	} {
		if got := crc.Of(c.s); got != c.want {
			t.Errorf("Of(%q) = %08x, want %08x", c.s, got, c.want)
		}
	}
}

// P2.1: Of, against the definition and against the library.
func TestOfDefined(t *testing.T) {
	library := crc32.MakeTable(crc32.Castagnoli)
	for _, s := range texts() {
		got := crc.Of(s)
		if want := defined(0, s); got != want {
			t.Errorf("Of(%q) = %08x, the definition says %08x", s, got, want)
		}
		if want := crc32.Checksum([]byte(s), library); got != want {
			t.Errorf("Of(%q) = %08x, the library says %08x", s, got, want)
		}
	}
	long := strings.Repeat("0123456789abcdef", 1<<16)
	if got, want := crc.Of(long), crc32.Checksum([]byte(long), library); got != want {
		t.Errorf("Of(a long text) = %08x, want %08x", got, want)
	}
}

// P2.1: More continues a checksum, at every place where a text may be split.
func TestMoreContinues(t *testing.T) {
	for _, s := range texts() {
		whole := crc.Of(s)
		for at := range len(s) + 1 {
			if got := crc.More(crc.Of(s[:at]), s[at:]); got != whole {
				t.Fatalf("More of %q, split at %d: %08x, want %08x", s, at, got, whole)
			}
		}
	}
}

// P2.1: More takes any number for a checksum.
func TestMoreOfAnyNumber(t *testing.T) {
	for _, before := range registers() {
		if got := crc.More(before, ""); got != before {
			t.Errorf("More(%08x, no bytes) = %08x", before, got)
		}
		for _, s := range texts() {
			if got, want := crc.More(before, s), defined(before, s); got != want {
				t.Fatalf("More(%08x, %q) = %08x, want %08x", before, s, got, want)
			}
		}
	}
}

// P2.1: Pass, bit by bit, and of counts that are below 1.
func TestPass(t *testing.T) {
	for _, v := range registers() {
		for _, n := range []int{0, -1, -8, math.MinInt} {
			if got := crc.Pass(v, n); got != v {
				t.Errorf("Pass(%08x, %d) = %08x", v, n, got)
			}
		}
		want := v
		for n := 1; n <= 600; n++ {
			want = zeros(want, 8)
			if got := crc.Pass(v, n); got != want {
				t.Fatalf("Pass(%08x, %d) = %08x, want %08x", v, n, got, want)
			}
		}
	}
}

// P2.1: Pass answers soon for any count: n bytes and m bytes are n + m bytes, and the register returns after 2^31 - 1 bits.
func TestPassOfGreatCounts(t *testing.T) {
	const period = 1<<31 - 1
	for _, v := range registers() {
		for _, n := range []int{1 << 20, 1 << 31, 1<<40 + 12345, 1 << 61} {
			if got, want := crc.Pass(crc.Pass(v, n), n-7), crc.Pass(v, 2*n-7); got != want {
				t.Errorf("Pass(%08x, %d) twice = %08x, want %08x", v, n, got, want)
			}
		}
		if got := crc.Pass(v, period); got != v {
			t.Errorf("Pass(%08x, %d) = %08x", v, period, got)
		}
		if got, want := crc.Pass(v, math.MaxInt), crc.Pass(v, math.MaxInt%period); got != want {
			t.Errorf("Pass(%08x, MaxInt) = %08x, want %08x", v, got, want)
		}
	}
}

// P2.2: Join of two texts' checksums is the checksum of both together.
func TestJoinOfTexts(t *testing.T) {
	if got := crc.Join(crc.Of("1234"), crc.Of("56789"), 5); got != 0xe3069283 {
		t.Errorf("Join of 1234 and 56789 = %08x", got)
	}
	for _, first := range texts() {
		for _, second := range texts() {
			got, want := crc.Join(crc.Of(first), crc.Of(second), len(second)), crc.Of(first+second)
			if got != want {
				t.Fatalf("Join of %q and %q = %08x, want %08x", first, second, got, want)
			}
		}
	}
}

// P2.2: Join of any numbers, and of lengths below 1.
func TestJoinOfAnyNumbers(t *testing.T) {
	for _, first := range registers() {
		for _, second := range registers() {
			for _, n := range []int{math.MinInt, -1, 0, 1, 2, 63, 200} {
				want := zeros(first, 8*max(n, 0)) ^ second
				if got := crc.Join(first, second, n); got != want {
					t.Fatalf("Join(%08x, %08x, %d) = %08x, want %08x", first, second, n, got, want)
				}
			}
		}
	}
	if got, want := crc.Join(7, 9, math.MaxInt), crc.Pass(7, math.MaxInt)^9; got != want {
		t.Errorf("Join(7, 9, MaxInt) = %08x, want %08x", got, want)
	}
}

// P2.3: every change within few bits, of texts of several kinds, everywhere.
func TestShortChangesAreDetected(t *testing.T) {
	for _, s := range []string{"\x00\x00", "abc", "\xff\xff\xff\xff\xff", "message 17", strings.Repeat("xy", 20)} {
		before := crc.Of(s)
		for at := range 8 * len(s) {
			width := min(10, 8*len(s)-at)
			for pattern := uint32(1); pattern < 1<<width; pattern++ {
				if crc.Of(flipped(s, at, pattern)) == before {
					t.Fatalf("%q: change %x at bit %d is not detected", s, pattern, at)
				}
			}
		}
	}
}

// P2.3: changes of up to 32 bits.
func TestLongChangesAreDetected(t *testing.T) {
	pattern := uint32(1)
	for _, s := range []string{"abcd", "\x00\x00\x00\x00\x00\x00\x00", strings.Repeat("corpus ", 6)} {
		before := crc.Of(s)
		for at := range 8*len(s) - 31 {
			for range 500 {
				pattern = pattern*1664525 + 1013904223
				for _, changed := range []uint32{pattern, pattern | 1<<31 | 1, bits.Reverse32(pattern)} {
					if changed != 0 && crc.Of(flipped(s, at, changed)) == before {
						t.Fatalf("%q: change %08x at bit %d is not detected", s, changed, at)
					}
				}
			}
		}
	}
}

// P2.3: all changes within 32 bits at once. What a change does to a checksum is the xor of what its bits do, so if the effects of the 32 single bits are linearly independent, none of the changes cancels out.
func TestChangesAreIndependent(t *testing.T) {
	for _, length := range []int{4, 5, 6, 9, 33, 200} {
		s := strings.Repeat("q", length)
		for at := range 8*length - 31 {
			t.Run(fmt.Sprintf("%d bytes, bit %d", length, at), func(t *testing.T) {
				var effects []uint32
				for i := range 32 {
					effects = append(effects, crc.Of(s)^crc.Of(flipped(s, at+i, 1)))
				}
				if got := rank(effects); got != 32 {
					t.Errorf("%d independent effects of 32", got)
				}
			})
		}
	}
}

// rank is how many of the numbers are linearly independent, as vectors of bits.
func rank(list []uint32) int {
	var leading [32]uint32
	count := 0
	for _, v := range list {
		for v != 0 {
			top := bits.Len32(v) - 1
			if leading[top] == 0 {
				leading[top] = v
				count++
				break
			}
			v ^= leading[top]
		}
	}
	return count
}
