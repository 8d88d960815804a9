package sha_test

import (
	"bytes"
	"crypto/sha256"
	"encoding/hex"
	"fmt"
	"strings"
	"testing"

	"ordeal/api"
	"ordeal/sha"
)

// message is a text of n bytes without a short period.
func message(n int) string {
	list := make([]byte, n)
	x := uint32(2463534242)
	for i := range list {
		x ^= x << 13
		x ^= x >> 17
		x ^= x << 5
		list[i] = byte(x >> 7)
	}
	return string(list)
}

// expect compares a digest with that of the library.
func expect(t *testing.T, name string, got api.Hash, s string) {
	t.Helper()
	if want := api.Hash(sha256.Sum256([]byte(s))); got != want {
		t.Errorf("%s: %x, want %x", name, got, want)
	}
}

// P3.1: published digests.
func TestPublishedDigests(t *testing.T) {
	million := strings.Repeat("a", 1000000)
	for _, c := range []struct{ s, want string }{
		{"", "e3b0c44298fc1c149afbf4c8996fb92427ae41e4649b934ca495991b7852b855"},
		{"abc", "ba7816bf8f01cfea414140de5dae2223b00361a396177a9cb410ff61f20015ad"},
		{"abcdbcdecdefdefgefghfghighijhijkijkljklmklmnlmnomnopnopq", "248d6a61d20638b8e5c026930c3e6039a33ce45964ff2167f6ecedd419db06c1"},
		{million, "cdc76e5c9914fb9281a1c7e284d73e67f1809a48a497200e046d39ccc7112cd0"},
	} {
		if got := sha.Text(sha.Of(c.s)); got != c.want {
			t.Errorf("%.9q: %s, want %s", c.s, got, c.want)
		}
	}
}

// P3.1: Of, for all lengths around several blocks, each of which ends the padding elsewhere.
func TestOfAllLengths(t *testing.T) {
	all := message(700)
	for n := range len(all) {
		expect(t, fmt.Sprintf("%d bytes", n), sha.Of(all[:n]), all[:n])
		same := strings.Repeat("\xff", n)
		expect(t, fmt.Sprintf("%d bytes ff", n), sha.Of(same), same)
		zeros := strings.Repeat("\x00", n)
		expect(t, fmt.Sprintf("%d zero bytes", n), sha.Of(zeros), zeros)
	}
	for c := range 256 {
		s := string([]byte{byte(c)})
		expect(t, fmt.Sprintf("byte %d", c), sha.Of(s), s)
	}
}

// P3.1: the length in bits has more than 32 bits.
func TestLongMessage(t *testing.T) {
	part := strings.Repeat("0123456789abcdef", 1<<16)
	var h sha.Hasher
	library := sha256.New()
	for range 1<<29/len(part) + 1 {
		h.Write(part)
		library.Write([]byte(part))
	}
	if got := h.Sum(); !bytes.Equal(got[:], library.Sum(nil)) {
		t.Errorf("%x", got)
	}
}

// P3.1: the digest does not depend on how the bytes are divided.
func TestDivision(t *testing.T) {
	all := message(200)
	for first := 0; first <= len(all); first++ {
		for second := first; second <= len(all); second += 7 {
			var h sha.Hasher
			h.Write(all[:first])
			h.Write(all[first:second])
			h.Write("")
			h.Write(all[second:])
			expect(t, fmt.Sprintf("divided at %d and %d", first, second), h.Sum(), all)
		}
	}
	for _, size := range []int{1, 2, 3, 63, 64, 65, 127, 128, 129} {
		var h sha.Hasher
		long := message(1000)
		for rest := long; rest != ""; {
			n := min(size, len(rest))
			h.Write(rest[:n])
			rest = rest[n:]
		}
		expect(t, fmt.Sprintf("parts of %d bytes", size), h.Sum(), long)
	}
}

// P3.1: Sum changes nothing, and more may follow; the zero Hasher has no bytes.
func TestSumChangesNothing(t *testing.T) {
	all := message(260)
	var h sha.Hasher
	for n := range len(all) {
		expect(t, fmt.Sprintf("after %d bytes", n), h.Sum(), all[:n])
		before := h
		h.Sum()
		if h != before {
			t.Errorf("after %d bytes: Sum changes the Hasher", n)
		}
		h.Write(all[n : n+1])
	}
	expect(t, "in the end", h.Sum(), all)
	h.Write("")
	expect(t, "after writing nothing", h.Sum(), all)
}

// P3.1: a copied Hasher has the bytes of the first, and is one of its own.
func TestCopy(t *testing.T) {
	for _, n := range []int{0, 1, 55, 56, 63, 64, 65, 130} {
		start := message(n)
		var first sha.Hasher
		first.Write(start)
		second := first
		first.Write("first")
		second.Write(message(80))
		expect(t, "first", first.Sum(), start+"first")
		expect(t, "second", second.Sum(), start+message(80))
	}
}

// P3.1: Text returns 64 hexadecimal digits in lower case.
func TestText(t *testing.T) {
	for c := range 256 {
		var h api.Hash
		for i := range h {
			h[i] = byte(c + 31*i)
		}
		if got, want := sha.Text(h), hex.EncodeToString(h[:]); got != want {
			t.Errorf("%s, want %s", got, want)
		}
	}
	if got := sha.Text(api.Hash{}); got != strings.Repeat("0", 64) {
		t.Errorf("zero: %s", got)
	}
}

// P3.2: Parse inverts Text.
func TestParseInvertsText(t *testing.T) {
	for i := range 1000 {
		h := sha.Of(message(i))
		if got, ok := sha.Parse(sha.Text(h)); !ok || got != h {
			t.Errorf("%x, %t, want %x", got, ok, h)
		}
	}
	for _, h := range []api.Hash{{}, {0: 0xff}, {31: 0x0f}, {31: 0xf0}} {
		if got, ok := sha.Parse(sha.Text(h)); !ok || got != h {
			t.Errorf("%x, %t, want %x", got, ok, h)
		}
	}
}

// P3.1, P3.2: Parse accepts exactly what Text produces: every byte at every place.
func TestParseEveryByte(t *testing.T) {
	good := sha.Text(sha.Of("abc"))
	for at := range good {
		for c := range 256 {
			s := good[:at] + string([]byte{byte(c)}) + good[at+1:]
			got, ok := sha.Parse(s)
			want := strings.IndexByte("0123456789abcdef", byte(c)) >= 0
			if ok != want || ok && sha.Text(got) != s || !ok && got != (api.Hash{}) {
				t.Fatalf("byte %#x at %d: %x, %t", c, at, got, ok)
			}
		}
	}
}

// P3.1: Parse rejects other lengths and other forms with the zero value.
func TestParseOtherTexts(t *testing.T) {
	good := sha.Text(sha.Of("abc"))
	list := []string{
		"", "0", good[:62], good[:63], good + "0", good + "00", good + "\n", " " + good, "0x" + good, "0x" + good[2:],
		strings.ToUpper(good), good + good, strings.Repeat("\u00e9", 32), strings.Repeat("\u0660", 32), strings.Repeat("\uff11", 21) + "0",
	}
	for _, s := range list {
		if got, ok := sha.Parse(s); ok || got != (api.Hash{}) {
			t.Errorf("%q: %x, %t", s, got, ok)
		}
	}
}

// P3.1: Compare goes byte by byte, without signs.
func TestCompare(t *testing.T) {
	for at := range api.HashSize {
		for _, values := range [][2]byte{{0, 1}, {1, 255}, {127, 128}, {0, 255}} {
			low, high := sha.Of("abc"), sha.Of("abc")
			low[at], high[at] = values[0], values[1]
			// What follows the first difference has no influence.
			for i := at + 1; i < api.HashSize; i++ {
				low[i], high[i] = 255, 0
			}
			if got := sha.Compare(low, high); got != -1 {
				t.Errorf("%x, %x: %d", low, high, got)
			}
			if got := sha.Compare(high, low); got != 1 {
				t.Errorf("%x, %x: %d", high, low, got)
			}
			if got := sha.Compare(low, low); got != 0 {
				t.Errorf("%x with itself: %d", low, got)
			}
		}
	}
}

func BenchmarkOf(b *testing.B) {
	s := message(1 << 20)
	b.SetBytes(int64(len(s)))
	for b.Loop() {
		sha.Of(s)
	}
}
