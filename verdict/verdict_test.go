package verdict_test

import (
	"crypto/sha256"
	"fmt"
	"math"
	"math/rand"
	"slices"
	"strings"
	"testing"

	"ordeal/api"
	"ordeal/canon"
	"ordeal/cond"
	"ordeal/outcome"
	"ordeal/read"
	"ordeal/rvwmo"
	"ordeal/tso"
	"ordeal/verdict"
)

// set is one of states that have these numbers.
func set(states ...[]uint64) outcome.Set {
	var list outcome.Set
	for _, numbers := range states {
		x := outcome.State{N: len(numbers)}
		copy(x.V[:], numbers)
		list = append(list, x)
	}
	return list
}

// same compares field by field, without the function that is to be tested.
func same(a, b verdict.Verdict) bool {
	isEqual := slices.Equal(a.Tso, b.Tso) && slices.Equal(a.Rv, b.Rv)
	a.Tso, a.Rv, b.Tso, b.Rv = nil, nil, nil, nil
	return isEqual && fmt.Sprint(a) == fmt.Sprint(b)
}

const (
	passing   = "thread\nstore x 1\nstore y 1\nthread\nload r0 y\nload r1 x\n"
	buffering = "thread\nstore x 1\nload r0 y\nthread\nstore y 1\nload r0 x\n"
)

// judged are texts with the canonical source of their test, and the verdict.
var judged = []struct {
	text, source string
	want         verdict.Verdict
}{
	{
		"thread\nstore x 1", "init x=0\nthread\nstore x 1\n",
		verdict.Verdict{N: 1, HasTso: true, Tso: set([]uint64{1}), Rv: set([]uint64{1}), AskTso: cond.Always, AskRv: cond.Always},
	},
	{
		passing + "ask 1:r0=1 1:r1=0", "init x=0 y=0\n" + passing + "ask 1:r0=1 1:r1=0\n",
		verdict.Verdict{
			N: 4, HasTso: true, AskTso: cond.Never, AskRv: cond.Some,
			Tso: set([]uint64{0, 0, 1, 1}, []uint64{0, 1, 1, 1}, []uint64{1, 1, 1, 1}),
			Rv:  set([]uint64{0, 0, 1, 1}, []uint64{0, 1, 1, 1}, []uint64{1, 0, 1, 1}, []uint64{1, 1, 1, 1}),
		},
	},
	{
		buffering + "ask 0:r0=0 1:r0=0", "init x=0 y=0\n" + buffering + "ask 0:r0=0 1:r0=0\n",
		verdict.Verdict{
			N: 4, HasTso: true, AskTso: cond.Some, AskRv: cond.Some,
			Tso: set([]uint64{0, 0, 1, 1}, []uint64{0, 1, 1, 1}, []uint64{1, 0, 1, 1}, []uint64{1, 1, 1, 1}),
			Rv:  set([]uint64{0, 0, 1, 1}, []uint64{0, 1, 1, 1}, []uint64{1, 0, 1, 1}, []uint64{1, 1, 1, 1}),
		},
	},
	{
		// Only with store buffers the condition holds in all states.
		"init x=7\nthread\nstore x 8\nstore y 9\nthread\nload r0 y\nfence r r\nload r1 x\nbeq r0 9 1\nli r1 8\nask 1:r1=8",
		"init x=7 y=0\nthread\nstore x 8\nstore y 9\nthread\nload r0 y\nfence r r\nload r1 x\nbeq r0 9 1\nli r1 8\nask 1:r1=8\n",
		verdict.Verdict{
			N: 4, HasTso: true, AskTso: cond.Always, AskRv: cond.Some,
			Tso: set([]uint64{0, 8, 8, 9}, []uint64{9, 8, 8, 9}),
			Rv:  set([]uint64{0, 8, 8, 9}, []uint64{9, 7, 8, 9}, []uint64{9, 8, 8, 9}),
		},
	},
	{
		"thread\nlr r0 x\nsc r1 x 5\nask x=5", "init x=0\nthread\nlr r0 x\nsc r1 x 5\nask x=5\n",
		verdict.Verdict{N: 3, Rv: set([]uint64{0, 0, 5}, []uint64{0, 1, 0}), AskRv: cond.Some},
	},
	{
		// No states with store buffers: it holds in none of them, but always under RVWMO.
		"thread\nlr r0 x", "init x=0\nthread\nlr r0 x\n",
		verdict.Verdict{N: 2, Rv: set([]uint64{0, 0}), AskRv: cond.Always},
	},
	{
		"thread", "thread\n",
		verdict.Verdict{HasTso: true, Tso: set(nil), Rv: set(nil), AskTso: cond.Always, AskRv: cond.Always},
	},
	{
		"thread\nask 0:r0=1", "thread\nask 0:r0=1\n",
		verdict.Verdict{HasTso: true, Tso: set(nil), Rv: set(nil)},
	},
	{
		"init x=18446744073709551615 y=0xf8\nthread\nthread\nli r7 0xf7\nthread", "init x=18446744073709551615 y=248\nthread\nthread\nli r7 247\nthread\n",
		verdict.Verdict{
			N: 3, HasTso: true, AskTso: cond.Always, AskRv: cond.Always,
			Tso: set([]uint64{0xf7, math.MaxUint64, 0xf8}), Rv: set([]uint64{0xf7, math.MaxUint64, 0xf8}),
		},
	},
}

// P21.1: the key and the verdict of texts that are tests.
func TestJudge(t *testing.T) {
	for _, c := range judged {
		k, v := verdict.Judge(c.text)
		if !same(v, c.want) {
			t.Errorf("%q: %+v, want %+v", c.text, v, c.want)
		}
		if k != api.Hash(sha256.Sum256([]byte("test\n"+c.source))) {
			t.Errorf("%q: %x", c.text, k)
		}
	}
}

// P21.1: the key and the verdict of texts that are none: the reason, the line, and nothing else.
func TestJudgeRejected(t *testing.T) {
	for _, c := range []struct {
		text string
		why  api.Errno
		line int
	}{
		{"fly", api.ErrText, 1},
		{"thread\n\n\nfly", api.ErrText, 4},
		{"\xff\x00", api.ErrText, 1},
		{"thread\nstore x 1\x00", api.ErrText, 2},
		{"thread\nload r8 x", api.ErrName, 2},
		{"thread\nask 1:r0=1", api.ErrName, 0},
		{"init x=1 x=2\nthread", api.ErrTwice, 1},
		{"store x 1", api.ErrOrder, 1},
		{"thread\ninit x=1", api.ErrOrder, 2},
		{"", api.ErrEmpty, 0},
		{"# nothing", api.ErrEmpty, 0},
		{"init x=1", api.ErrEmpty, 0},
		{strings.Repeat("\n", 2000), api.ErrEmpty, 0},
		{strings.Repeat("\n", 1999) + "?", api.ErrText, 2000},
		{strings.Repeat("\n", 2001), api.ErrLength, 0},
		{strings.Repeat("fly ", 1000), api.ErrLength, 0},
		{strings.Repeat("thread\n", 5), api.ErrMany, 0},
		{"thread\n" + strings.Repeat("load r0 x\n", 9), api.ErrMany, 0},
		{"thread\nbeq r0 0 1", api.ErrSkip, 0},
	} {
		k, v := verdict.Judge(c.text)
		if !same(v, verdict.Verdict{Why: c.why, Line: c.line}) {
			t.Errorf("%.20q: %+v", c.text, v)
		}
		if k != api.Hash(sha256.Sum256([]byte("rejected\n"+c.text))) {
			t.Errorf("%.20q: %x", c.text, k)
		}
		if got := v.Write(); got != bytesOf(uint64(c.why), uint64(c.line)) {
			t.Errorf("%.20q: %x", c.text, got)
		}
	}
}

// P21.1: Judge on random texts, against what the lower layers return; again it returns the same.
func TestJudgeRandom(t *testing.T) {
	r := rand.New(rand.NewSource(1))
	var kinds [3][3]int
	rejected, pairs, unlike := 0, 0, 0
	for range 3000 {
		s := randomText(r)
		k, v := verdict.Judge(s)
		if k != canon.Of(s).Key {
			t.Fatalf("%q: %x", s, k)
		}
		x, line, e := read.Parse(s)
		want := verdict.Verdict{Why: e, Line: line}
		if e == api.OK {
			want.N = len(outcome.Slots(&x))
			want.Tso, want.HasTso = tso.States(&x)
			want.AskTso = cond.Of(&x, want.Tso).Kind
			want.Rv = rvwmo.States(&x)
			want.AskRv = cond.Of(&x, want.Rv).Kind
		}
		if !same(v, want) {
			t.Fatalf("%q: %+v, want %+v", s, v, want)
		}
		again, u := verdict.Judge(s)
		if again != k || !same(u, v) {
			t.Fatalf("%q: %+v, then %+v", s, v, u)
		}
		switch {
		case e != api.OK:
			rejected++
		case !v.HasTso:
			pairs++
		default:
			kinds[v.AskTso][v.AskRv]++
			if !slices.Equal(v.Tso, v.Rv) {
				unlike++
			}
		}
	}
	if min(rejected, pairs, unlike, kinds[0][0], kinds[1][1], kinds[2][2]) < 50 {
		t.Errorf("%d rejected, %d with pairs, %d unlike, %v", rejected, pairs, unlike, kinds)
	}
}

// P21.1: any bytes have a verdict, which can be written and read.
func TestJudgeBytes(t *testing.T) {
	r := rand.New(rand.NewSource(2))
	for range 3000 {
		b := make([]byte, r.Intn(40))
		r.Read(b)
		s := string(b)
		if r.Intn(2) == 0 {
			s = bent(r, judged[r.Intn(len(judged))].text)
		}
		k, v := verdict.Judge(s)
		item := canon.Of(s)
		if k != item.Key || v.Why != item.Why || v.Line != item.Line {
			t.Fatalf("%q: %+v", s, v)
		}
		if u, e := verdict.Read(v.Write()); e != api.OK || !same(u, v) {
			t.Fatalf("%q: %+v, read as %+v, %d", s, v, u, e)
		}
	}
}

// P21.1: the examples of the chapter.
func TestExample(t *testing.T) {
	if _, v := verdict.Judge("fly"); v.Why != api.ErrText || v.Line != 1 || v.Write() != "\x0a\x01" {
		t.Errorf("%+v, %x", v, v.Write())
	}
	if _, v := verdict.Judge("thread\nstore x 1"); v.N != 1 || v.Write() != "\x00\x01\x03\x01\x01\x02\x01\x01" {
		t.Errorf("%+v, %x", v, v.Write())
	}
}

// P21.1: Write produces the bytes described.
func TestWrite(t *testing.T) {
	for i, want := range []string{
		"\x00\x01\x03\x01\x01\x02\x01\x01",
		"\x00\x04\x01\x03" + "\x00\x00\x01\x01" + "\x00\x01\x01\x01" + "\x01\x01\x01\x01" +
			"\x01\x04" + "\x00\x00\x01\x01" + "\x00\x01\x01\x01" + "\x01\x00\x01\x01" + "\x01\x01\x01\x01",
		"\x00\x04\x02\x04" + "\x00\x00\x01\x01" + "\x00\x01\x01\x01" + "\x01\x00\x01\x01" + "\x01\x01\x01\x01" +
			"\x01\x04" + "\x00\x00\x01\x01" + "\x00\x01\x01\x01" + "\x01\x00\x01\x01" + "\x01\x01\x01\x01",
		"\x00\x04\x03\x02" + "\x00\x08\x08\x09" + "\x09\x08\x08\x09" + "\x01\x03" + "\x00\x08\x08\x09" + "\x09\x07\x08\x09" + "\x09\x08\x08\x09",
		"\x00\x03\x00\x01\x02" + "\x00\x00\x05" + "\x00\x01\x00",
		"\x00\x02\x00\x02\x01\x00\x00",
		"\x00\x00\x03\x01\x02\x01",
		"\x00\x00\x01\x01\x00\x01",
		"\x00\x03\x03\x01\xf7\xff\xff\xff\xff\xff\xff\xff\xff\xff\xf8\xf8\x02\x01\xf7\xff\xff\xff\xff\xff\xff\xff\xff\xff\xf8\xf8",
	} {
		_, v := verdict.Judge(judged[i].text)
		if got := v.Write(); got != want || got != encoded(v) {
			t.Errorf("%q: %x, want %x", judged[i].text, got, want)
		}
	}
	if got := (verdict.Verdict{}).Write(); got != "\x00\x00\x00\x00\x00" {
		t.Errorf("the zero verdict: %x", got)
	}
}

// P21.2: Read inverts Write, and Write inverts Read.
func TestInverse(t *testing.T) {
	r := rand.New(rand.NewSource(3))
	byText := map[string]verdict.Verdict{}
	for range 20000 {
		v := randomVerdict(r)
		before := fmt.Sprint(v)
		s := v.Write()
		if s != encoded(v) || fmt.Sprint(v) != before {
			t.Fatalf("%s: %x", before, s)
		}
		u, e := verdict.Read(s)
		if e != api.OK || !same(u, v) || u.Write() != s {
			t.Fatalf("%+v: %x, read as %+v, %d", v, s, u, e)
		}
		if other, found := byText[s]; found && !same(other, v) {
			t.Fatalf("%x: %+v, and %+v", s, v, other)
		}
		byText[s] = v
	}
}

// P21.1: Read returns the first error, and nothing else beside it.
func TestReadErrors(t *testing.T) {
	for _, c := range []struct {
		name, text string
		want       api.Errno
	}{
		{"nothing", "", api.ErrEnd},
		{"the greatest Why", bytesOf(17, 0), api.OK},
		{"Why above", bytesOf(18, 0), api.ErrForm},
		{"Why above, at the end", bytesOf(18), api.ErrForm},
		{"Why far above", bytesOf(1<<32, 0), api.ErrForm},
		{"Why that would be negative", bytesOf(math.MaxUint64, 0), api.ErrForm},
		{"a bad number", "\xf8\x0a\x01", api.ErrForm},
		{"half a number", "\xf9\x01", api.ErrEnd},
		{"no Line", bytesOf(10), api.ErrEnd},
		{"the greatest Line", bytesOf(10, 2001), api.OK},
		{"Line above", bytesOf(10, 2002), api.ErrForm},
		{"Line above, and bytes left", bytesOf(10, 2002, 0), api.ErrForm},
		{"Line far above", bytesOf(10, 1<<63), api.ErrForm},
		{"half a Line", "\x0a\xf9\x01", api.ErrEnd},
		{"a bad Line", "\x0a\xf8\x01", api.ErrForm},
		{"bytes left behind a Line", bytesOf(10, 1, 0), api.ErrForm},
		{"a verdict behind a Line", bytesOf(10, 1, 0, 0, 0, 0, 0), api.ErrForm},
		{"no N", bytesOf(0), api.ErrEnd},
		{"N above", bytesOf(0, 41), api.ErrForm},
		{"N above, complete", bytesOf(0, 41, 0, 0, 0), api.ErrForm},
		{"N far above", bytesOf(0, math.MaxUint64, 0, 0, 0), api.ErrForm},
		{"the greatest N", bytesOf(0, 40, 0, 0, 0), api.OK},
		{"no number for HasTso", bytesOf(0, 1), api.ErrEnd},
		{"the greatest for HasTso", bytesOf(0, 1, 3, 0, 0, 0), api.OK},
		{"HasTso above", bytesOf(0, 1, 4, 0, 0, 0), api.ErrForm},
		{"HasTso above, at the end", bytesOf(0, 1, 4), api.ErrForm},
		{"HasTso far above", bytesOf(0, 1, 1<<40, 0, 0, 0), api.ErrForm},
		{"no Tso", bytesOf(0, 1, 1), api.ErrEnd},
		{"Tso without states", bytesOf(0, 1, 1, 2, 7), api.ErrEnd},
		{"no AskRv", bytesOf(0, 1, 0), api.ErrEnd},
		{"no AskRv behind Tso", bytesOf(0, 1, 1, 1, 7), api.ErrEnd},
		{"the greatest AskRv", bytesOf(0, 1, 0, 2, 0), api.OK},
		{"AskRv above", bytesOf(0, 1, 0, 3, 0), api.ErrForm},
		{"AskRv above, at the end", bytesOf(0, 1, 0, 3), api.ErrForm},
		{"no Rv", bytesOf(0, 1, 0, 2), api.ErrEnd},
		{"Rv without states", bytesOf(0, 2, 0, 2, 1, 5), api.ErrEnd},
		{"a bad number in a state", bytesOf(0, 2, 0, 2, 1, 5) + "\xf8\x05", api.ErrForm},
		{"an empty Rv", bytesOf(0, 1, 0, 0, 0), api.OK},
		{"bytes left", bytesOf(0, 1, 0, 0, 0, 0), api.ErrForm},
		{"two states", bytesOf(0, 1, 0, 0, 2, 5, 6), api.OK},
		{"the same state twice", bytesOf(0, 1, 0, 0, 2, 5, 5), api.ErrForm},
		{"states not in order", bytesOf(0, 1, 0, 0, 2, 6, 5), api.ErrForm},
		{"the last state not in order", bytesOf(0, 2, 0, 0, 3, 1, 7, 2, 0, 1, 8), api.ErrForm},
		{"only the first pair not in order", bytesOf(0, 1, 0, 0, 4, 5, 1, 2, 6), api.ErrForm},
		{"by the second number", bytesOf(0, 2, 0, 0, 2, 5, 1, 5, 0), api.ErrForm},
		{"order is of numbers, not of bytes", bytesOf(0, 1, 0, 0, 3, 300, math.MaxInt64, 1<<63), api.OK},
		{"Tso not in order", bytesOf(0, 1, 1, 2, 6, 5, 0, 0), api.ErrForm},
		{"Tso not in order, then a bad AskRv", bytesOf(0, 1, 1, 2, 6, 5, 9), api.ErrForm},
		{"Tso not in order, then the end", bytesOf(0, 1, 1, 2, 6, 5), api.ErrForm},
		{"Tso not in order, then too many states", bytesOf(0, 1, 1, 2, 6, 5, 0, 100001), api.ErrForm},
		{"not in order, but the end first", bytesOf(0, 1, 1, 3, 6, 5), api.ErrEnd},
		{"Rv before Tso", bytesOf(0, 1, 1, 1, 6, 0, 1, 5), api.OK},
		{"one state of no numbers", bytesOf(0, 0, 3, 1, 2, 1), api.OK},
		{"two states of no numbers", bytesOf(0, 0, 0, 0, 2), api.ErrForm},
		{"no state of no numbers", bytesOf(0, 0, 0, 0, 0), api.OK},
		{"100000 states of no numbers", bytesOf(0, 0, 0, 0, 100000), api.ErrForm},
		{"100001 states of no numbers", bytesOf(0, 0, 0, 0, 100001), api.ErrMany},
		{"100001 states of Tso", bytesOf(0, 1, 1, 100001), api.ErrMany},
		{"100001 states of Rv, and a bad number", bytesOf(0, 1, 0, 0, 100001) + "\xf8\x05", api.ErrMany},
		{"100000 states, and the end", bytesOf(0, 1, 0, 0, 100000), api.ErrEnd},
		{"all states there could be", bytesOf(0, 40, 0, 0, math.MaxUint64), api.ErrMany},
		{"as many states as an int64 has", bytesOf(0, 40, 0, 0, 1<<63), api.ErrMany},
		{"a bad count", bytesOf(0, 1, 0, 0) + "\xfa\x01\x86", api.ErrEnd},
	} {
		v, e := verdict.Read(c.text)
		if e != c.want || e != api.OK && !same(v, verdict.Verdict{}) {
			t.Errorf("%s: %+v, %d, want %d", c.name, v, e, c.want)
		}
		if e == api.OK && v.Write() != c.text {
			t.Errorf("%s: %x, written as %x", c.name, c.text, v.Write())
		}
		if _, want := decoded(c.text); want != c.want {
			t.Errorf("%s: %d by the model", c.name, want)
		}
	}
}

// P21.1 and P21.2: sets of 100000 states can be read, in both models.
func TestReadMany(t *testing.T) {
	var all outcome.Set
	for i := range uint64(100001) {
		all = append(all, set([]uint64{7 * i})...)
	}
	v := verdict.Verdict{N: 1, HasTso: true, Tso: all[1:], Rv: all[:100000]}
	s := v.Write()
	u, e := verdict.Read(s)
	if e != api.OK || !same(u, v) || u.Write() != s {
		t.Errorf("%d and %d states, %d", len(u.Tso), len(u.Rv), e)
	}
	v.Rv = all
	if u, e := verdict.Read(v.Write()); e != api.ErrMany || !same(u, verdict.Verdict{}) {
		t.Errorf("%d and %d states, %d", len(u.Tso), len(u.Rv), e)
	}
	v.Tso, v.Rv = all, nil
	if u, e := verdict.Read(v.Write()); e != api.ErrMany || !same(u, verdict.Verdict{}) {
		t.Errorf("%d and %d states, %d", len(u.Tso), len(u.Rv), e)
	}
	v.Tso = all[:100000]
	v.Tso[99999] = v.Tso[99998]
	if u, e := verdict.Read(v.Write()); e != api.ErrForm || !same(u, verdict.Verdict{}) {
		t.Errorf("%d and %d states, %d", len(u.Tso), len(u.Rv), e)
	}
}

// P21.1 and P21.2: an encoding that is cut off anywhere, or continued, is none.
func TestPrefixes(t *testing.T) {
	for _, c := range judged {
		_, v := verdict.Judge(c.text)
		s := v.Write()
		for n := range len(s) {
			if u, e := verdict.Read(s[:n]); e != api.ErrEnd || !same(u, verdict.Verdict{}) {
				t.Errorf("%x: %+v, %d", s[:n], u, e)
			}
		}
		for _, rest := range []string{"\x00", "\xff", s} {
			if u, e := verdict.Read(s + rest); e != api.ErrForm || !same(u, verdict.Verdict{}) {
				t.Errorf("%x: %+v, %d", s+rest, u, e)
			}
		}
	}
}

// P21.1 and P21.2: Read of any bytes, against a second implementation; what it accepts is the only encoding.
func TestReadRandom(t *testing.T) {
	r := rand.New(rand.NewSource(4))
	found := map[api.Errno]int{}
	check := func(s string) {
		v, e := verdict.Read(s)
		want, wantError := decoded(s)
		if e != wantError || !same(v, want) {
			t.Fatalf("%x: %+v, %d, want %+v, %d", s, v, e, want, wantError)
		}
		if e == api.OK && v.Write() != s {
			t.Fatalf("%x: %+v, written as %x", s, v, v.Write())
		}
		found[e]++
	}
	for range 30000 {
		check(bent(r, encoded(randomVerdict(r))))
	}
	for range 30000 {
		b := make([]byte, r.Intn(12))
		for i := range b {
			b[i] = []byte{0, 0, 0, 0, 1, 1, 1, 2, 2, 3, 4, 17, 18, 40, 41, 0xf7, 0xf8, 0xf9, 0xfa, 0xff}[r.Intn(20)]
		}
		check(string(b))
	}
	for a := range 256 {
		for b := range 256 {
			check(string([]byte{byte(a), byte(b)}))
			check(string([]byte{0, 1, byte(a), byte(b), 0, 0}))
			check(string([]byte{0, 1, 0, byte(a), 2, 7, byte(b)}))
		}
	}
	for _, e := range []api.Errno{api.OK, api.ErrEnd, api.ErrForm, api.ErrMany} {
		if found[e] < 50 {
			t.Errorf("%d only %d times", e, found[e])
		}
	}
}

// P21.1: Same tells verdicts apart that differ in a single field, and no others.
func TestSame(t *testing.T) {
	one, two := set([]uint64{1}), set([]uint64{1}, []uint64{2})
	list := []verdict.Verdict{
		{},
		{Why: api.ErrText, Line: 1},
		{Why: api.ErrName, Line: 1},
		{Why: api.ErrText, Line: 2},
		{Why: api.ErrText},
		{N: 1},
		{N: 1, HasTso: true},
		{N: 1, HasTso: true, AskTso: 1},
		{N: 1, HasTso: true, AskTso: 2},
		{N: 1, AskRv: 1},
		{N: 1, AskRv: 2},
		{N: 1, HasTso: true, Tso: one},
		{N: 1, HasTso: true, Tso: two},
		{N: 1, HasTso: true, Tso: two[1:]},
		{N: 1, HasTso: true, Rv: one},
		{N: 1, HasTso: true, Rv: two},
		{N: 1, HasTso: true, Rv: two[1:]},
		{N: 1, HasTso: true, Tso: one, Rv: one},
		{N: 1, HasTso: true, Tso: one, Rv: two},
		{N: 1, HasTso: true, Tso: two, Rv: one},
		{N: 1, HasTso: true, Tso: two, Rv: two},
		{N: 2, HasTso: true, Tso: set([]uint64{1, 0})},
	}
	for i, a := range list {
		for j, b := range list {
			if got := verdict.Same(a, b); got != (i == j) {
				t.Errorf("%+v, %+v: %v", a, b, got)
			}
		}
		b, e := verdict.Read(a.Write())
		if e != api.OK || !verdict.Same(a, b) || !verdict.Same(b, a) {
			t.Errorf("%+v, read as %+v, %d", a, b, e)
		}
	}
	a, b := list[5], list[5]
	a.Tso, a.Rv = outcome.Set{}, outcome.Set{}
	if !verdict.Same(a, b) || !verdict.Same(b, a) || a.Write() != b.Write() {
		t.Error("nil and empty sets")
	}
}

// P21.1: Same is equality, on random verdicts.
func TestSameRandom(t *testing.T) {
	r := rand.New(rand.NewSource(5))
	equal := 0
	for range 20000 {
		a, b := randomVerdict(r), randomVerdict(r)
		if r.Intn(2) == 0 {
			b, _ = decoded(encoded(a))
		}
		if got := verdict.Same(a, b); got != same(a, b) || got != verdict.Same(b, a) || got != (a.Write() == b.Write()) {
			t.Fatalf("%+v, %+v: %v", a, b, got)
		}
		if same(a, b) {
			equal++
		}
	}
	if equal < 5000 {
		t.Errorf("only %d are equal", equal)
	}
}

// P21.3: texts of the same test have the same key and the same verdict; a text of another one has another key.
func TestSameTest(t *testing.T) {
	k, v := verdict.Judge(passing + "ask 1:r0=1 1:r1=0")
	for _, s := range []string{
		"# the same\nthread\nstore  x 01\nstore y 0x1\n\nthread\nload r0 y\nload r1 x\nask 1:r1=0 1:r0=1",
		"init y=0\nthread\r\nstore\tx 1\r\nstore y 1\r\nthread\r\nload r0 y\r\nload r1 x # last\nask 1:r0=0x1\nask 1:r1=0",
		"init x=0 y=0\n" + passing + "ask 1:r0=1 1:r1=0\n",
		"init y=0\ninit x=0\ninit\n" + passing + "ask\nask 1:r1=0\nask 1:r0=1",
	} {
		if other, u := verdict.Judge(s); other != k || !verdict.Same(u, v) || u.Write() != v.Write() {
			t.Errorf("%q: %+v", s, u)
		}
	}
	for _, s := range []string{
		passing,
		passing + "ask 1:r0=1",
		passing + "ask 1:r0=1 1:r1=0\nthread",
		"init z=0\n" + passing + "ask 1:r0=1 1:r1=0",
		strings.Replace(passing, "load", "lr", 1) + "ask 1:r0=1 1:r1=0",
	} {
		if other, _ := verdict.Judge(s); other == k {
			t.Errorf("%q: the same key", s)
		}
	}
	r := rand.New(rand.NewSource(6))
	tests := 0
	for range 1000 {
		s := randomText(r)
		x, _, e := read.Parse(s)
		if e != api.OK {
			continue
		}
		tests++
		k, v := verdict.Judge(s)
		if other, u := verdict.Judge(canon.Print(&x)); other != k || !verdict.Same(u, v) {
			t.Fatalf("%q: %+v, %+v", s, v, u)
		}
	}
	if tests < 300 {
		t.Errorf("only %d tests", tests)
	}
}

// K3 and K4: results share no memory with each other, and calls change nothing.
func TestNothingIsShared(t *testing.T) {
	s := buffering + "ask 0:r0=0 1:r0=0"
	_, v := verdict.Judge(s)
	_, want := verdict.Judge(s)
	text := v.Write()
	u, _ := verdict.Read(text)
	clear(v.Tso)
	if !slices.Equal(v.Rv, want.Rv) {
		t.Error("Judge: Tso and Rv are one")
	}
	clear(u.Tso)
	if !slices.Equal(u.Rv, want.Rv) {
		t.Error("Read: Tso and Rv are one")
	}
	if _, again := verdict.Judge(s); !same(again, want) {
		t.Errorf("Judge: %+v", again)
	}
	if again, e := verdict.Read(text); e != api.OK || !same(again, want) {
		t.Errorf("Read: %+v", again)
	}
}
