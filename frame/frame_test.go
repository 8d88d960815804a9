package frame_test

import (
	"encoding/binary"
	"hash/crc32"
	"math"
	"math/rand"
	"slices"
	"strings"
	"testing"

	"ordeal/api"
	"ordeal/frame"
)

// framed is a frame as the chapter defines it, for any length and record.
func framed(seq uint64, size uint32, record string) string {
	head := binary.BigEndian.AppendUint32(nil, size)
	head = binary.BigEndian.AppendUint64(head, seq)
	sum := crc32.Checksum(append(slices.Clone(head), record...), crc32.MakeTable(crc32.Castagnoli))
	return "OJ" + string(binary.BigEndian.AppendUint32(head, sum)) + record
}

// write is the frame of a record that is short enough.
func write(t *testing.T, seq uint64, record string) string {
	t.Helper()
	s, e := frame.Write(seq, record)
	if e != api.OK {
		t.Fatalf("Write(%d, %d bytes): %d", seq, len(record), e)
	}
	return s
}

// records are some of different lengths and bytes.
func records() []string {
	list := []string{"", "a", "\x00", "OJ", "\xff\xff\xff\xff", strings.Repeat("OJ\x00", 100), strings.Repeat("x", 255), strings.Repeat("y", 70000)}
	r := rand.New(rand.NewSource(1))
	for range 20 {
		b := make([]byte, r.Intn(300))
		r.Read(b)
		list = append(list, string(b))
	}
	return list
}

// numbers are sequence numbers at the borders, and others.
var numbers = []uint64{0, 1, 2, 255, 256, 0x0102030405060708, math.MaxInt64, math.MaxInt64 + 1, math.MaxUint64 - 1, math.MaxUint64}

// P6.1: the example of the chapter.
func TestExample(t *testing.T) {
	if s := write(t, 1, "a"); len(s) != 19 || s[:14] != "\x4f\x4a\x00\x00\x00\x01\x00\x00\x00\x00\x00\x00\x00\x01" || s[18:] != "\x61" || frame.Head != 18 {
		t.Errorf("%x", s)
	}
}

// P6.1: Write produces the bytes described.
func TestWrite(t *testing.T) {
	for _, seq := range numbers {
		for _, record := range records() {
			if s := write(t, seq, record); s != framed(seq, uint32(len(record)), record) {
				t.Errorf("Write(%d, %q): %x", seq, record, s)
			}
		}
	}
}

// P6.1 and P6.2: the longest record is MaxRecord bytes long, in Write and in Read.
func TestLongest(t *testing.T) {
	long := strings.Repeat("0123456789abcdef", api.MaxRecord/16)
	s := write(t, 7, long)
	seq, record, n, e := frame.Read(s)
	if seq != 7 || record != long || n != frame.Head+api.MaxRecord || e != api.OK {
		t.Errorf("Read: %d, %d bytes, %d, %d", seq, len(record), n, e)
	}
	if s, e := frame.Write(7, long+"x"); s != "" || e != api.ErrMany {
		t.Errorf("Write: %d bytes, %d", len(s), e)
	}
	long += "x"
	if seq, record, n, e := frame.Read(framed(7, uint32(len(long)), long)); seq != 0 || record != "" || n != 0 || e != api.ErrMany {
		t.Errorf("Read: %d, %d bytes, %d, %d", seq, len(record), n, e)
	}
}

// P6.2: Read inverts Write, whatever follows the frame.
func TestInverse(t *testing.T) {
	for _, seq := range numbers {
		for _, record := range records() {
			s := write(t, seq, record)
			for _, rest := range []string{"", "O", "OJ", s, "\x00\xff"} {
				gotSeq, got, n, e := frame.Read(s + rest)
				if gotSeq != seq || got != record || n != len(s) || e != api.OK {
					t.Errorf("Read(Write(%d, %q) + %q): %d, %q, %d, %d", seq, record, rest, gotSeq, got, n, e)
				}
			}
		}
	}
}

// P6.1: Read returns the first of its errors, and nothing else beside it.
func TestReadErrors(t *testing.T) {
	s := framed(9, 3, "abc")
	many := framed(9, api.MaxRecord+1, "abc")
	for _, c := range []struct {
		name, text string
		want       api.Errno
	}{
		{"nothing", "", api.ErrEnd},
		{"one byte", "O", api.ErrEnd},
		{"one wrong byte", "X", api.ErrEnd},
		{"two wrong bytes", "JO", api.ErrForm},
		{"the first wrong", "XJ" + s[2:], api.ErrForm},
		{"the second wrong", "OX" + s[2:], api.ErrForm},
		{"lower case", "oj" + s[2:], api.ErrForm},
		{"wrong mark, too long", "XJ" + many[2:], api.ErrForm},
		{"wrong mark, few bytes", "XJ\xff", api.ErrForm},
		{"mark", "OJ", api.ErrEnd},
		{"half a head", s[:9], api.ErrEnd},
		{"a head but one byte", s[:17], api.ErrEnd},
		{"too long in half a head", many[:17], api.ErrEnd},
		{"too long", many[:18], api.ErrMany},
		{"too long, with bytes", many, api.ErrMany},
		{"longest length", framed(9, math.MaxUint32, ""), api.ErrMany},
		{"length with the highest bit", framed(9, 1<<31, ""), api.ErrMany},
		{"longest, without bytes", framed(9, api.MaxRecord, ""), api.ErrEnd},
		{"a head alone", s[:18], api.ErrEnd},
		{"one byte missing", s[:20], api.ErrEnd},
		{"one byte missing, wrong sum", s[:17] + "\x00ab", api.ErrEnd},
		{"wrong byte", s[:18] + "abd", api.ErrSum},
		{"wrong length", framed(9, 2, "abc"), api.ErrSum},
		{"wrong sum", s[:14] + "\x00\x00\x00\x00abc", api.ErrSum},
		{"sum of the record alone", s[:14] + string(binary.BigEndian.AppendUint32(nil, crc32.Checksum([]byte("abc"), crc32.MakeTable(crc32.Castagnoli)))) + "abc", api.ErrSum},
		{"nothing but zeros", strings.Repeat("\x00", 40), api.ErrForm},
		{"a zero head", "OJ" + strings.Repeat("\x00", 16), api.ErrSum},
	} {
		if seq, record, n, e := frame.Read(c.text); seq != 0 || record != "" || n != 0 || e != c.want {
			t.Errorf("%s: %d, %q, %d, %d, want %d", c.name, seq, record, n, e, c.want)
		}
	}
}

// failure is the error of Read as the chapter lists them.
func failure(s string) api.Errno {
	switch {
	case len(s) < 2:
		return api.ErrEnd
	case s[:2] != "OJ":
		return api.ErrForm
	case len(s) < 18:
		return api.ErrEnd
	}
	size := binary.BigEndian.Uint32([]byte(s[2:6]))
	switch {
	case size > 4194304:
		return api.ErrMany
	case len(s)-18 < int(size):
		return api.ErrEnd
	case framed(binary.BigEndian.Uint64([]byte(s[6:14])), size, s[18:18+size]) != s[:18+size]:
		return api.ErrSum
	}
	return api.OK
}

// P6.1: Read for any bytes.
func TestReadAny(t *testing.T) {
	r := rand.New(rand.NewSource(2))
	seen := map[api.Errno]int{}
	for range 20000 {
		b := []byte(framed(uint64(r.Intn(3)), uint32(r.Intn(6)), "abcde"[:r.Intn(6)]))
		for range r.Intn(3) {
			b[r.Intn(len(b))] ^= byte(1 << r.Intn(8))
		}
		s := string(b[:len(b)-r.Intn(2)*r.Intn(len(b)+1)])
		seq, record, n, e := frame.Read(s)
		if e != failure(s) {
			t.Fatalf("Read(%x): %d, want %d", s, e, failure(s))
		}
		if e == api.OK && (n != frame.Head+len(record) || framed(seq, uint32(len(record)), record) != s[:n]) || e != api.OK && (seq != 0 || record != "" || n != 0) {
			t.Fatalf("Read(%x): %d, %q, %d, %d", s, seq, record, n, e)
		}
		seen[e]++
	}
	if len(seen) != 5 {
		t.Errorf("not every result was seen: %v", seen)
	}
}

// scan checks the records of Scan, and their bytes.
func scan(t *testing.T, name, s string, seq uint64, want []string) {
	t.Helper()
	got, n := frame.Scan(s, seq)
	size := 0
	for _, w := range want {
		size += frame.Head + len(w)
	}
	if !slices.Equal(got, want) || n != size {
		t.Errorf("%s: %d records, %d bytes, want %d records, %d bytes", name, len(got), n, len(want), size)
	}
}

// P6.1: Scan reads frames without a gap, also past the greatest number.
func TestScan(t *testing.T) {
	list := records()
	for _, seq := range numbers {
		var all strings.Builder
		for i, record := range list {
			all.WriteString(write(t, seq+uint64(i), record))
		}
		s := all.String()
		scan(t, "all", s, seq, list)
		scan(t, "a number too low", s, seq-1, nil)
		scan(t, "a number too high", s, seq+1, nil)
		scan(t, "something behind", s+"OJx", seq, list)
		scan(t, "an old frame behind", s+write(t, seq, "old"), seq, list)
		scan(t, "the same frame again", s+write(t, seq+uint64(len(list))-1, list[len(list)-1]), seq, list)
		scan(t, "a gap", s+write(t, seq+uint64(len(list))+1, "later"), seq, list)
		scan(t, "something before", "x"+s, seq, nil)
	}
	scan(t, "nothing", "", 5, nil)
	scan(t, "no frame", "OJ but no frame, although long enough", 5, nil)
	scan(t, "past the end", write(t, math.MaxUint64, "a")+write(t, 0, "b"), math.MaxUint64, []string{"a", "b"})
}

// P6.3: of frames that are cut off anywhere, Scan returns exactly the complete ones.
func TestTorn(t *testing.T) {
	list := []string{"", "abc", "OJ", strings.Repeat("z", 40), "x"}
	var s string
	var ends []int
	for i, record := range list {
		s += write(t, 41+uint64(i), record)
		ends = append(ends, len(s))
	}
	for cut := range len(s) + 1 {
		complete := 0
		for complete < len(ends) && ends[complete] <= cut {
			complete++
		}
		scan(t, "cut off", s[:cut], 41, list[:complete])
	}
}

// bent is s with the bits of pattern changed from bit i of the bytes from start on.
func bent(s string, start, i int, pattern uint32) string {
	b := []byte(s)
	for k := range 32 {
		if pattern>>k&1 == 1 {
			b[start+(i+k)/8] ^= 1 << ((i + k) % 8)
		}
	}
	return string(b)
}

// P6.4: if up to 32 bits in a row of a record, a number or a checksum are changed, Scan returns the frames before that one.
func TestBent(t *testing.T) {
	list := []string{"first", "the second record", "", "and the last one"}
	var s string
	var starts []int
	for i, record := range list {
		starts = append(starts, len(s))
		s += write(t, 3+uint64(i), record)
	}
	r := rand.New(rand.NewSource(3))
	for k, record := range list {
		for _, part := range [][2]int{{6, 8}, {14, 4}, {frame.Head, len(record)}} {
			start, bits := starts[k]+part[0], 8*part[1]
			for i := range bits {
				for range 20 {
					// A run begins and ends with a bit that is changed.
					width := min(1+r.Intn(32), bits-i)
					pattern := r.Uint32()>>(32-width) | 1 | 1<<(width-1)
					scan(t, "bent", bent(s, start, i, pattern), 3, list[:k])
				}
			}
		}
	}
}
