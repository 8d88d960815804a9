package pack_test

import (
	"encoding/binary"
	"fmt"
	"math"
	"strings"
	"testing"

	"ordeal/api"
	"ordeal/pack"
)

// encoded is a number as the chapter defines it.
func encoded(v uint64) string {
	if v < 0xf8 {
		return string([]byte{byte(v)})
	}
	all := binary.BigEndian.AppendUint64(nil, v)
	for all[0] == 0 {
		all = all[1:]
	}
	return string([]byte{0xf8 + byte(len(all)) - 1}) + string(all)
}

// decoded is the number at the beginning of s, and how many bytes it has.
func decoded(s string) (uint64, int, api.Errno) {
	if s == "" {
		return 0, 0, api.ErrEnd
	}
	if s[0] < 0xf8 {
		return uint64(s[0]), 1, api.OK
	}
	size := int(s[0]) - 0xf8 + 2
	if len(s) < size {
		return 0, 0, api.ErrEnd
	}
	v := binary.BigEndian.Uint64([]byte(strings.Repeat("\x00", 9-size) + s[1:size]))
	if encoded(v) != s[:size] {
		return 0, 0, api.ErrForm
	}
	return v, size, api.OK
}

// numbers are those at the borders of each size, and some others.
func numbers() []uint64 {
	list := []uint64{0, 1, 5, 100, 0x7f, 0x80, 246, 247, 248, 249, 300, math.MaxInt64, math.MaxInt64 + 1, math.MaxUint64}
	for bit := range 64 {
		v := uint64(1) << bit
		list = append(list, v-1, v, v+1, v|0x5a, ^v)
	}
	return list
}

// check compares the reader's state.
func check(t *testing.T, name string, r *pack.Reader, at int, err api.Errno) {
	t.Helper()
	if r.At() != at || r.Err() != err {
		t.Errorf("%s: At %d, Err %d, want %d and %d", name, r.At(), r.Err(), at, err)
	}
}

// dead checks that nothing is consumed any more, and that the first error stays.
func dead(t *testing.T, name string, r *pack.Reader, at int, err api.Errno) {
	t.Helper()
	check(t, name, r, at, err)
	r.Fail(api.ErrIO)
	if r.Raw(0) != "" || r.Raw(1) != "" || r.Raw(-1) != "" || r.Fixed(1) != 0 || r.Num() != 0 || r.Text(10) != "" || r.Text(-1) != "" {
		t.Errorf("%s: a result after the error", name)
	}
	if got := r.Done(); got != err {
		t.Errorf("%s: Done %d, want %d", name, got, err)
	}
	check(t, name+", afterwards", r, at, err)
}

// P4.1: numbers are encoded as described, as briefly as possible.
func TestNum(t *testing.T) {
	for _, v := range numbers() {
		var w pack.Writer
		w.Num(v)
		if got := w.Bytes(); got != encoded(v) {
			t.Errorf("%#x: %x, want %x", v, got, encoded(v))
		}
	}
	for v, want := range map[uint64]string{5: "\x05", 300: "\xf9\x01\x2c", 247: "\xf7", 248: "\xf8\xf8", 1 << 56: "\xff\x01" + strings.Repeat("\x00", 7)} {
		var w pack.Writer
		w.Num(v)
		if got := w.Bytes(); got != want {
			t.Errorf("%d: %x, want %x", v, got, want)
		}
	}
}

// P4.1: fixed numbers of every size, which is limited to 1 to 8, for the writer and for the reader.
func TestFixed(t *testing.T) {
	for _, v := range numbers() {
		all := string(binary.BigEndian.AppendUint64(nil, v))
		for _, n := range []int{math.MinInt, -64, -1, 0, 1, 2, 3, 4, 5, 6, 7, 8, 9, 16, 64, math.MaxInt} {
			size := min(max(n, 1), 8)
			var w pack.Writer
			w.Fixed(v, n)
			if got, want := w.Bytes(), all[8-size:]; got != want {
				t.Fatalf("write %#x, %d: %x, want %x", v, n, got, want)
			}
			r := pack.Read(w.Bytes() + "rest")
			want := v & (math.MaxUint64 >> (64 - 8*size))
			if got := r.Fixed(n); got != want {
				t.Fatalf("read %x, %d: %#x, want %#x", w.Bytes(), n, got, want)
			}
			check(t, fmt.Sprintf("Fixed %d", n), r, size, api.OK)
			r = pack.Read(w.Bytes()[1:])
			if got := r.Fixed(n); got != 0 {
				t.Fatalf("read %d bytes, %d: %#x", size-1, n, got)
			}
			dead(t, fmt.Sprintf("short Fixed %d", n), r, 0, api.ErrEnd)
		}
	}
}

// P4.1: strings and raw bytes are encoded as described, one after the other.
func TestTextAndRaw(t *testing.T) {
	for _, n := range []int{0, 1, 2, 246, 247, 248, 255, 256, 65535, 65536} {
		s := strings.Repeat("\xfe", n)
		var w pack.Writer
		w.Text(s)
		if got := w.Bytes(); got != encoded(uint64(n))+s {
			t.Errorf("%d bytes: %.9x", n, got)
		}
		w.Raw(s)
		if got := w.Bytes(); got != encoded(uint64(n))+s+s {
			t.Errorf("%d bytes, and raw: %.9x", n, got)
		}
	}
	var w pack.Writer
	w.Text("ab")
	w.Raw("")
	w.Raw("\xff\x00")
	w.Text("")
	w.Num(300)
	w.Fixed(1, 2)
	before := w.Bytes()
	if before != "\x02ab\xff\x00\x00\xf9\x01\x2c\x00\x01" || before != w.Bytes() {
		t.Errorf("%x", before)
	}
	w.Raw("more")
	if got := w.Bytes(); got != before+"more" {
		t.Errorf("%x", got)
	}
}

// P4.1: the zero Writer is empty, and so is what follows no call.
func TestZeroWriter(t *testing.T) {
	var w pack.Writer
	if w.Bytes() != "" {
		t.Errorf("%x", w.Bytes())
	}
	w.Raw("")
	if w.Bytes() != "" {
		t.Errorf("%x", w.Bytes())
	}
}

// P4.1: any bytes are decoded as numbers as described.
func TestReadNum(t *testing.T) {
	var list []string
	for first := range 256 {
		list = append(list, string([]byte{byte(first)}))
		for second := range 256 {
			s := string([]byte{byte(first), byte(second)})
			list = append(list, s, s+"\x00", s+"\xff\x00", s+"\x00\x01\x02", s+strings.Repeat("\x00", 6), s+"1234567", s+"123456789")
		}
	}
	list = append(list, "", "\xf9\x00\xff", "\xfa\x00\xff\xff", "\xff\x00\xff\xff\xff\xff\xff\xff\xff")
	for _, s := range list {
		v, n, err := decoded(s)
		r := pack.Read(s)
		if got := r.Num(); got != v || r.At() != n || r.Err() != err {
			t.Fatalf("%x: %#x, At %d, Err %d, want %#x, %d, %d", s, got, r.At(), r.Err(), v, n, err)
		}
		if err != api.OK {
			dead(t, fmt.Sprintf("%x", s), r, 0, err)
		}
	}
}

// P4.1: a number whose bytes end is reported as such, even if it would not be encoded validly.
func TestNumEndsFirst(t *testing.T) {
	for size := 1; size <= 8; size++ {
		s := string([]byte{0xf8 + byte(size) - 1}) + strings.Repeat("\x00", size)
		for n := range len(s) {
			r := pack.Read(s[:n])
			r.Num()
			dead(t, fmt.Sprintf("%x", s[:n]), r, 0, api.ErrEnd)
		}
		r := pack.Read(s)
		r.Num()
		dead(t, fmt.Sprintf("%x", s), r, 0, api.ErrForm)
	}
}

// P4.1: raw bytes, as many as there are; fewer than none count as an end.
func TestReadRaw(t *testing.T) {
	for _, n := range []int{math.MinInt, -2, -1, 4, 5, 64, math.MaxInt} {
		r := pack.Read("abc")
		if got := r.Raw(n); got != "" {
			t.Errorf("%d: %q", n, got)
		}
		dead(t, fmt.Sprintf("Raw %d", n), r, 0, api.ErrEnd)
		r = pack.Read("abc")
		r.Raw(3)
		if n > 0 {
			r.Raw(n)
			dead(t, fmt.Sprintf("Raw %d at the end", n), r, 3, api.ErrEnd)
		}
	}
	r := pack.Read("abc")
	for i, want := range []string{"", "a", "", "bc", ""} {
		if got := r.Raw(len(want)); got != want {
			t.Errorf("%d: %q, want %q", i, got, want)
		}
	}
	check(t, "all", r, 3, api.OK)
	if r.Done() != api.OK {
		t.Errorf("Done: %d", r.Done())
	}
}

// P4.1: strings of at most so many bytes; too many are detected before an end.
func TestReadText(t *testing.T) {
	long := encoded(300) + strings.Repeat("x", 300)
	for _, c := range []struct {
		s    string
		most int
		want string
		at   int
		err  api.Errno
	}{
		{"\x03abcd", 3, "abc", 4, api.OK},
		{"\x03abcd", 4, "abc", 4, api.OK},
		{"\x03abcd", math.MaxInt, "abc", 4, api.OK},
		{"\x03abcd", 2, "", 0, api.ErrMany},
		{"\x03abcd", 0, "", 0, api.ErrMany},
		{"\x03abcd", -1, "", 0, api.ErrMany},
		{"\x03abcd", math.MinInt, "", 0, api.ErrMany},
		{"\x03ab", 2, "", 0, api.ErrMany},
		{"\x03ab", 3, "", 0, api.ErrEnd},
		{"\x03", 3, "", 0, api.ErrEnd},
		{"\x00ab", 0, "", 1, api.OK},
		{"\x00ab", -1, "", 1, api.OK},
		{"\x00", math.MinInt, "", 1, api.OK},
		{"", 0, "", 0, api.ErrEnd},
		{"", -1, "", 0, api.ErrEnd},
		{"\xf8", 0, "", 0, api.ErrEnd},
		{"\xf8\x03abc", 3, "", 0, api.ErrForm},
		{"\xf8\x03abc", 2, "", 0, api.ErrForm},
		{long, 300, long[3:], 303, api.OK},
		{long, 299, "", 0, api.ErrMany},
		{long[:302], 300, "", 0, api.ErrEnd},
		{"\xff\x80\x00\x00\x00\x00\x00\x00\x00", math.MaxInt, "", 0, api.ErrMany},
		{"\xff\xff\xff\xff\xff\xff\xff\xff\xff", math.MaxInt, "", 0, api.ErrMany},
		{"\xff\xff\xff\xff\xff\xff\xff\xff\xff", -1, "", 0, api.ErrMany},
		{"\xff\x7f\xff\xff\xff\xff\xff\xff\xff", math.MaxInt, "", 0, api.ErrEnd},
	} {
		name := fmt.Sprintf("%.9x, %d", c.s, c.most)
		r := pack.Read("!" + c.s)
		r.Raw(1)
		if got := r.Text(c.most); got != c.want {
			t.Errorf("%s: %.9q", name, got)
		}
		check(t, name, r, 1+c.at, c.err)
		if c.err != api.OK {
			dead(t, name, r, 1, c.err)
		}
	}
}

// P4.1: Fail sets the error that is the first one, and leaves things as they are without an error.
func TestFail(t *testing.T) {
	for _, err := range []api.Errno{api.ErrArg, api.ErrSum, api.ErrLength, 99, -1} {
		r := pack.Read("\x01\x02")
		r.Num()
		r.Fail(api.OK)
		check(t, "Fail(OK)", r, 1, api.OK)
		r.Fail(err)
		r.Fail(api.OK)
		dead(t, "Fail", r, 1, err)
	}
	r := pack.Read("\x01\x02")
	r.Fail(api.OK)
	if r.Num() != 1 || r.Num() != 2 || r.Done() != api.OK {
		t.Errorf("after Fail(OK): At %d, Err %d", r.At(), r.Err())
	}
}

// P4.1: Done reports bytes that are left, once and for all.
func TestDone(t *testing.T) {
	r := pack.Read("")
	check(t, "empty", r, 0, api.OK)
	if got := r.Done(); got != api.OK {
		t.Errorf("empty: %d", got)
	}
	r = pack.Read("\x01\x02")
	r.Num()
	if got := r.Done(); got != api.ErrForm {
		t.Errorf("one byte left: %d", got)
	}
	dead(t, "one byte left", r, 1, api.ErrForm)
	r = pack.Read("\x01\x02")
	r.Fail(api.ErrArg)
	if got := r.Done(); got != api.ErrArg {
		t.Errorf("another error: %d", got)
	}
	r = pack.Read("\x01")
	r.Num()
	if got := r.Done(); got != api.OK {
		t.Errorf("none left: %d", got)
	}
	r.Raw(1)
	dead(t, "beyond the end", r, 1, api.ErrEnd)
}

// P4.2: every encoded value decodes to itself, whatever follows it.
func TestRoundTrip(t *testing.T) {
	var w pack.Writer
	list := numbers()
	for i, v := range list {
		w.Num(v)
		w.Fixed(v, i%8+1)
		w.Text(strings.Repeat("\xff", i))
		w.Raw(strings.Repeat("\xf8", i))
	}
	r := pack.Read(w.Bytes())
	for i, v := range list {
		if got := r.Num(); got != v {
			t.Errorf("Num %#x: %#x", v, got)
		}
		size := i%8 + 1
		if got, want := r.Fixed(size), v<<(64-8*size)>>(64-8*size); got != want {
			t.Errorf("Fixed %#x: %#x", want, got)
		}
		if got := r.Text(i); got != strings.Repeat("\xff", i) {
			t.Errorf("Text of %d bytes: %q", i, got)
		}
		if got := r.Raw(i); got != strings.Repeat("\xf8", i) {
			t.Errorf("Raw of %d bytes: %q", i, got)
		}
	}
	if got := r.Done(); got != api.OK || r.At() != len(w.Bytes()) {
		t.Errorf("Done: %d, At %d", got, r.At())
	}
}

// P4.2: what is decoded without an error is the encoding of its value: there is no second one.
func TestOneEncoding(t *testing.T) {
	digits := []byte{0, 1, 2, 0xf7, 0xf8, 0xf9, 0xfa, 0xff}
	for i := range 8 * 8 * 8 * 8 * 8 {
		var s []byte
		for rest := i; len(s) < 5; rest /= 8 {
			s = append(s, digits[rest%8])
		}
		text := string(s)
		r := pack.Read(text)
		if v := r.Num(); r.Err() == api.OK {
			var w pack.Writer
			w.Num(v)
			if w.Bytes() != text[:r.At()] {
				t.Fatalf("%x: decoded as %#x, encoded as %x", text, v, w.Bytes())
			}
		}
		r = pack.Read(text)
		if v := r.Text(len(text)); r.Err() == api.OK {
			var w pack.Writer
			w.Text(v)
			if w.Bytes() != text[:r.At()] {
				t.Fatalf("%x: decoded as %q, encoded as %x", text, v, w.Bytes())
			}
		}
	}
}

// P4.1: readers of the same text are independent of each other.
func TestReadersApart(t *testing.T) {
	first, second := pack.Read("\x01\x02"), pack.Read("\x01\x02")
	first.Num()
	first.Fail(api.ErrSum)
	check(t, "second", second, 0, api.OK)
	if got := second.Num(); got != 1 {
		t.Errorf("second: %d", got)
	}
}
