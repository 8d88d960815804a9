package word_test

import (
	"fmt"
	"math"
	"math/big"
	"testing"

	"ordeal/word"
)

// values are numbers with bits at the borders of bytes and words, and some without any pattern.
func values() []uint64 {
	list := []uint64{
		0, 1, 2, 3, 0x7f, 0x80, 0xff, 0x100, 0x7fff, 0x8000, 0xffff, 0x10000,
		0x7fffffff, 0x80000000, 0xffffffff, 0x100000000,
		0x0123456789abcdef, 0xfedcba9876543210, 0xaaaaaaaaaaaaaaaa, 0x5555555555555555,
		math.MaxInt64, 1 << 63, math.MaxUint64 - 1, math.MaxUint64,
	}
	x := uint64(88172645463325252)
	for range 12 {
		x ^= x << 13
		x ^= x >> 7
		x ^= x << 17
		list = append(list, x)
	}
	return list
}

// widths are all numbers near and between 0 and 64, and the extremes of int.
func widths() []int {
	list := []int{math.MinInt, math.MinInt + 1, -1 << 32, -1000, math.MaxInt - 1, math.MaxInt, 1 << 32, 1<<32 + 1, 1000}
	for n := -130; n <= 130; n++ {
		list = append(list, n)
	}
	return list
}

// digits tells the bits of a number one by one, without the package under test.
func digits(v uint64) [64]bool {
	var list [64]bool
	for i := range list {
		list[i] = v%2 == 1
		v /= 2
	}
	return list
}

// sum is the number that has these bits.
func sum(list [64]bool) uint64 {
	var v uint64
	for i := 63; i >= 0; i-- {
		v *= 2
		if list[i] {
			v++
		}
	}
	return v
}

// modulo is n modulo m, from 0 on also for n below 0.
func modulo(n, m int) int {
	return int(new(big.Int).Mod(big.NewInt(int64(n)), big.NewInt(int64(m))).Int64())
}

func check[T comparable](t *testing.T, call string, got, want T) {
	t.Helper()
	if got != want {
		t.Errorf("%s = %#v, want %#v", call, got, want)
	}
}

// P1.1: Low.
func TestLow(t *testing.T) {
	check(t, "Low(ff, 4)", word.Low(0xff, 4), 0xf)
	check(t, "Low(5, 0)", word.Low(5, 0), 0)
	check(t, "Low(5, -1)", word.Low(5, -1), 0)
	check(t, "Low(max, 63)", word.Low(math.MaxUint64, 63), math.MaxInt64)
	check(t, "Low(max, 64)", word.Low(math.MaxUint64, 64), math.MaxUint64)
	check(t, "Low(5, 65)", word.Low(5, 65), 5)
	for _, v := range values() {
		for _, n := range widths() {
			want := digits(v)
			for i := range want {
				want[i] = want[i] && i < n
			}
			check(t, fmt.Sprintf("Low(%x, %d)", v, n), word.Low(v, n), sum(want))
		}
	}
}

// P1.1: Signed.
func TestSigned(t *testing.T) {
	check(t, "Signed(80, 8)", word.Signed(0x80, 8), -128)
	check(t, "Signed(7f, 8)", word.Signed(0x7f, 8), 127)
	check(t, "Signed(ff80, 8)", word.Signed(0xff80, 8), -128)
	check(t, "Signed(1, 1)", word.Signed(1, 1), -1)
	check(t, "Signed(2, 1)", word.Signed(2, 1), 0)
	check(t, "Signed(3, 0)", word.Signed(3, 0), -1)
	check(t, "Signed(3, -9)", word.Signed(3, -9), -1)
	check(t, "Signed(max, 64)", word.Signed(math.MaxUint64, 64), -1)
	check(t, "Signed(2^63, 65)", word.Signed(1<<63, 65), math.MinInt64)
	for _, v := range values() {
		for _, n := range widths() {
			limited := min(max(n, 1), 64)
			modulus := new(big.Int).Lsh(big.NewInt(1), uint(limited))
			want := new(big.Int).Mod(new(big.Int).SetUint64(v), modulus)
			if want.Bit(limited-1) == 1 {
				want.Sub(want, modulus)
			}
			check(t, fmt.Sprintf("Signed(%x, %d)", v, n), word.Signed(v, n), want.Int64())
		}
	}
}

// P1.1: Bit and With.
func TestBitAndWith(t *testing.T) {
	check(t, "Bit(4, 2)", word.Bit(4, 2), true)
	check(t, "Bit(4, 1)", word.Bit(4, 1), false)
	check(t, "Bit(max, -1)", word.Bit(math.MaxUint64, -1), false)
	check(t, "Bit(max, 64)", word.Bit(math.MaxUint64, 64), false)
	check(t, "With(0, 63)", word.With(0, 63), 1<<63)
	check(t, "With(1, 0)", word.With(1, 0), 1)
	check(t, "With(1, 64)", word.With(1, 64), 1)
	check(t, "With(2, -64)", word.With(2, -64), 2)
	for _, v := range values() {
		for _, n := range widths() {
			bits := digits(v)
			there := n >= 0 && n <= 63
			check(t, fmt.Sprintf("Bit(%x, %d)", v, n), word.Bit(v, n), there && bits[n&63])
			if there {
				bits[n] = true
			}
			check(t, fmt.Sprintf("With(%x, %d)", v, n), word.With(v, n), sum(bits))
		}
	}
}

// P1.1: Field.
func TestField(t *testing.T) {
	check(t, "Field(abcd, 4, 8)", word.Field(0xabcd, 4, 8), 0xbc)
	check(t, "Field(abcd, 0, 4)", word.Field(0xabcd, 0, 4), 0xd)
	check(t, "Field(2^63, 63, 64)", word.Field(1<<63, 63, 64), 1)
	check(t, "Field(max, 64, 8)", word.Field(math.MaxUint64, 64, 8), 0)
	check(t, "Field(max, -1, 8)", word.Field(math.MaxUint64, -1, 8), 0)
	check(t, "Field(max, 3, -1)", word.Field(math.MaxUint64, 3, -1), 0)
	check(t, "Field(max, 3, 99)", word.Field(math.MaxUint64, 3, 99), math.MaxUint64/8)
	for _, v := range values() {
		for _, at := range widths() {
			for _, n := range widths() {
				var want [64]bool
				for i, set := range digits(v) {
					if at >= 0 && i >= at && i-at < n {
						want[i-at] = set
					}
				}
				if got := word.Field(v, at, n); got != sum(want) {
					t.Fatalf("Field(%x, %d, %d) = %x, want %x", v, at, n, got, sum(want))
				}
			}
		}
	}
}

// P1.1: Lay.
func TestLay(t *testing.T) {
	check(t, "Lay(ff, 4, 8, 0)", word.Lay(0xff, 4, 8, 0), 0xf)
	check(t, "Lay(0, 4, 4, abc)", word.Lay(0, 4, 4, 0xabc), 0xc0)
	check(t, "Lay(0, 60, 8, ff)", word.Lay(0, 60, 8, 0xff), 0xf<<60)
	check(t, "Lay(7, 64, 8, ff)", word.Lay(7, 64, 8, 0xff), 7)
	check(t, "Lay(7, -1, 8, ff)", word.Lay(7, -1, 8, 0xff), 7)
	check(t, "Lay(7, 0, 0, 0)", word.Lay(7, 0, 0, 0), 7)
	check(t, "Lay(7, 0, -5, 0)", word.Lay(7, 0, -5, 0), 7)
	check(t, "Lay(7, 0, 99, max)", word.Lay(7, 0, 99, math.MaxUint64), math.MaxUint64)
	list := values()
	for k, v := range list {
		x := list[(k*7+5)%len(list)]
		for _, at := range widths() {
			for _, n := range widths() {
				want, laid := digits(v), digits(x)
				for i := range want {
					if at >= 0 && i >= at && i-at < n {
						want[i] = laid[i-at]
					}
				}
				if got := word.Lay(v, at, n, x); got != sum(want) {
					t.Fatalf("Lay(%x, %d, %d, %x) = %x, want %x", v, at, n, x, got, sum(want))
				}
			}
		}
	}
}

// P1.1: Turn and Turn32.
func TestTurn(t *testing.T) {
	check(t, "Turn(1, -1)", word.Turn(1, -1), 1<<63)
	check(t, "Turn(2^63, 1)", word.Turn(1<<63, 1), 1)
	check(t, "Turn(1, 65)", word.Turn(1, 65), 2)
	check(t, "Turn(5, 64)", word.Turn(5, 64), 5)
	check(t, "Turn(5, MinInt)", word.Turn(5, math.MinInt), 5)
	check(t, "Turn(1, MaxInt)", word.Turn(1, math.MaxInt), 1<<63)
	check(t, "Turn32(1, -1)", word.Turn32(1, -1), 1<<31)
	check(t, "Turn32(2^31, 1)", word.Turn32(1<<31, 1), 1)
	check(t, "Turn32(1, 33)", word.Turn32(1, 33), 2)
	check(t, "Turn32(5, -32)", word.Turn32(5, -32), 5)
	check(t, "Turn32(5, MinInt)", word.Turn32(5, math.MinInt), 5)
	for _, v := range values() {
		for _, n := range widths() {
			var want, want32 [64]bool
			for i, set := range digits(v) {
				want[(i+modulo(n, 64))%64] = set
				if i < 32 {
					want32[(i+modulo(n, 32))%32] = set
				}
			}
			check(t, fmt.Sprintf("Turn(%x, %d)", v, n), word.Turn(v, n), sum(want))
			check(t, fmt.Sprintf("Turn32(%x, %d)", uint32(v), n), word.Turn32(uint32(v), n), uint32(sum(want32)))
		}
	}
}

// P1.1: Left and Right, by the lowest six bits of any number.
func TestLeftAndRight(t *testing.T) {
	check(t, "Left(1, 63)", word.Left(1, 63), 1<<63)
	check(t, "Left(1, 64)", word.Left(1, 64), 1)
	check(t, "Left(3, 63)", word.Left(3, 63), 1<<63)
	check(t, "Left(1, max)", word.Left(1, math.MaxUint64), 1<<63)
	check(t, "Right(2, 65)", word.Right(2, 65), 1)
	check(t, "Right(2^63, 63)", word.Right(1<<63, 63), 1)
	check(t, "Right(7, 64)", word.Right(7, 64), 7)
	for _, v := range values() {
		for _, n := range values() {
			var left, right [64]bool
			by := int(n % 64)
			for i, set := range digits(v) {
				if i+by < 64 {
					left[i+by] = set
				}
				if i >= by {
					right[i-by] = set
				}
			}
			check(t, fmt.Sprintf("Left(%x, %x)", v, n), word.Left(v, n), sum(left))
			check(t, fmt.Sprintf("Right(%x, %x)", v, n), word.Right(v, n), sum(right))
		}
	}
	for n := range uint64(64) {
		check(t, fmt.Sprintf("Left(1, %d)", n), word.Left(1, n), uint64(math.Pow(2, float64(n))))
		check(t, fmt.Sprintf("Right(2^63, %d)", n), word.Right(1<<63, n), uint64(math.Pow(2, float64(63-n))))
	}
}

// P1.1: Count and First.
func TestCountAndFirst(t *testing.T) {
	check(t, "Count(0)", word.Count(0), 0)
	check(t, "Count(f0f0)", word.Count(0xf0f0), 8)
	check(t, "Count(max)", word.Count(math.MaxUint64), 64)
	check(t, "First(0)", word.First(0), 64)
	check(t, "First(8)", word.First(8), 3)
	check(t, "First(2^63)", word.First(1<<63), 63)
	for _, v := range values() {
		count, first := 0, 64
		for i, set := range digits(v) {
			if set {
				count++
				first = min(first, i)
			}
		}
		check(t, fmt.Sprintf("Count(%x)", v), word.Count(v), count)
		check(t, fmt.Sprintf("First(%x)", v), word.First(v), first)
	}
	for i := range 64 {
		check(t, fmt.Sprintf("First(2^%d)", i), word.First(word.With(1<<63, i)), i)
	}
}

// P1.1: Swap.
func TestSwap(t *testing.T) {
	check(t, "Swap(1)", word.Swap(1), 1<<56)
	check(t, "Swap(0123456789abcdef)", word.Swap(0x0123456789abcdef), 0xefcdab8967452301)
	for _, v := range values() {
		var want [64]bool
		for i, set := range digits(v) {
			want[(7-i/8)*8+i%8] = set
		}
		check(t, fmt.Sprintf("Swap(%x)", v), word.Swap(v), sum(want))
		check(t, fmt.Sprintf("Swap(Swap(%x))", v), word.Swap(word.Swap(v)), v)
	}
}

// P1.1: Bytes.
func TestBytes(t *testing.T) {
	check(t, "Bytes(10203, 2)", word.Bytes(0x010203, 2), "\x03\x02")
	check(t, "Bytes(10203, 0)", word.Bytes(0x010203, 0), "")
	check(t, "Bytes(10203, -1)", word.Bytes(0x010203, -1), "")
	all := "\xef\xcd\xab\x89\x67\x45\x23\x01"
	for _, n := range widths() {
		limited := min(max(n, 0), 8)
		check(t, fmt.Sprintf("Bytes(0123456789abcdef, %d)", n), word.Bytes(0x0123456789abcdef, n), all[:limited])
	}
}

// P1.1: Number.
func TestNumber(t *testing.T) {
	check(t, "Number()", word.Number(""), 0)
	check(t, "Number(01 02)", word.Number("\x01\x02"), 0x201)
	check(t, "Number(00 00 80)", word.Number("\x00\x00\x80"), 0x800000)
	check(t, "Number(seven bytes)", word.Number("\xff\xff\xff\xff\xff\xff\xff"), 1<<56-1)
	check(t, "Number(eight bytes)", word.Number("\xef\xcd\xab\x89\x67\x45\x23\x01"), 0x0123456789abcdef)
	check(t, "Number(nine bytes)", word.Number("\xef\xcd\xab\x89\x67\x45\x23\x01\xff"), 0x0123456789abcdef)
	check(t, "Number(text)", word.Number("\u00e9z"), 0x7aa9c3)
}

// P1.1: Narrow.
func TestNarrow(t *testing.T) {
	const v = 0xf1e2d3c4b5a69788
	for _, c := range []struct {
		v        uint64
		n        int
		unsigned uint64
		signed   int64
	}{
		{0x1ff, 1, 255, -1}, {0x17f, 1, 127, 127}, {v, 1, 0x88, -0x78},
		{v, 2, 0x9788, -0x6878}, {0x17fff, 2, 0x7fff, 0x7fff},
		{v, 4, 0xb5a69788, -0x4a596878}, {0x17fffffff, 4, 0x7fffffff, 0x7fffffff},
		{v, 8, v, -0x0e1d2c3b4a596878}, {math.MaxInt64, 8, math.MaxInt64, math.MaxInt64},
	} {
		unsigned, signed := word.Narrow(c.v, c.n)
		check(t, fmt.Sprintf("unsigned Narrow(%x, %d)", c.v, c.n), unsigned, c.unsigned)
		check(t, fmt.Sprintf("signed Narrow(%x, %d)", c.v, c.n), signed, c.signed)
	}
	for _, n := range widths() {
		if n == 1 || n == 2 || n == 4 {
			continue
		}
		unsigned, signed := word.Narrow(v, n)
		check(t, fmt.Sprintf("unsigned Narrow(v, %d)", n), unsigned, v)
		check(t, fmt.Sprintf("signed Narrow(v, %d)", n), signed, -0x0e1d2c3b4a596878)
	}
}

// P1.1: Fold and Unfold.
func TestFoldAndUnfold(t *testing.T) {
	for _, c := range []struct {
		n int64
		v uint64
	}{
		{0, 0}, {-1, 1}, {1, 2}, {-2, 3}, {2, 4}, {-64, 127}, {64, 128},
		{math.MaxInt64, math.MaxUint64 - 1}, {math.MinInt64, math.MaxUint64},
	} {
		check(t, fmt.Sprintf("Fold(%d)", c.n), word.Fold(c.n), c.v)
		check(t, fmt.Sprintf("Unfold(%d)", c.v), word.Unfold(c.v), c.n)
	}
	two, one := big.NewInt(2), big.NewInt(1)
	for _, v := range values() {
		want := new(big.Int).Mul(big.NewInt(int64(v)), two)
		if int64(v) < 0 {
			want.Neg(want).Sub(want, one)
		}
		check(t, fmt.Sprintf("Fold(%d)", int64(v)), word.Fold(int64(v)), want.Uint64())
	}
}

// P1.2: rotating there and back.
func TestTurnIsInverted(t *testing.T) {
	for _, v := range values() {
		for _, n := range widths() {
			check(t, fmt.Sprintf("Turn(%x) by %d and back", v, n), word.Turn(word.Turn(v, n), -n), v)
			check(t, fmt.Sprintf("Turn32(%x) by %d and back", uint32(v), n), word.Turn32(word.Turn32(uint32(v), n), -n), uint32(v))
		}
	}
}

// P1.2: folding and unfolding, in both directions.
func TestFoldIsInverted(t *testing.T) {
	for _, v := range values() {
		check(t, fmt.Sprintf("Unfold(Fold(%d))", int64(v)), word.Unfold(word.Fold(int64(v))), int64(v))
		check(t, fmt.Sprintf("Fold(Unfold(%d))", v), word.Fold(word.Unfold(v)), v)
	}
}

// P1.2: converting to bytes and back, of as many bytes as the number needs.
func TestBytesAreInverted(t *testing.T) {
	for _, v := range values() {
		check(t, fmt.Sprintf("Number(Bytes(%x, 8))", v), word.Number(word.Bytes(v, 8)), v)
		for n := range 9 {
			part := word.Bytes(v, n)
			check(t, fmt.Sprintf("Number(Bytes(%x, %d))", v, n), word.Number(part), word.Low(v, 8*n))
			check(t, fmt.Sprintf("Bytes(Number(%q))", part), word.Bytes(word.Number(part), n), part)
		}
	}
}
