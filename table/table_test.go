package table_test

import (
	"crypto/sha256"
	"encoding/binary"
	"fmt"
	"maps"
	"math/rand"
	"slices"
	"strings"
	"testing"

	"ordeal/api"
	"ordeal/table"
)

// key has these bytes, and zeros behind them.
func key(first ...byte) api.Hash {
	var k api.Hash
	copy(k[:], first)
	return k
}

// text is key, as a string.
func text(first ...byte) string {
	k := key(first...)
	return string(k[:])
}

// filled is a table with these entries, put in this order.
func filled(entries ...table.Entry) *table.Table {
	var t table.Table
	for _, entry := range entries {
		t.Put(entry.Key, entry.Text)
	}
	return &t
}

// numbered is a number as layer 4 encodes it.
func numbered(v uint64) string {
	if v < 0xf8 {
		return string([]byte{byte(v)})
	}
	all := binary.BigEndian.AppendUint64(nil, v)
	for all[0] == 0 {
		all = all[1:]
	}
	return string([]byte{0xf8 + byte(len(all)) - 1}) + string(all)
}

// sealed is s with its digest.
func sealed(s string) string {
	sum := sha256.Sum256([]byte(s))
	return s + string(sum[:])
}

// body is what precedes the digest in the encoding of entries, for any count.
func body(count uint64, entries ...table.Entry) string {
	s := "ORDEALT1" + numbered(count)
	for _, entry := range entries {
		s += string(entry.Key[:]) + numbered(uint64(len(entry.Text))) + entry.Text
	}
	return s
}

// model is what a table is to contain, by the bytes of the keys.
type model map[string]string

// entries are those of a model, in ascending order.
func (m model) entries() []table.Entry {
	var list []table.Entry
	for _, k := range slices.Sorted(maps.Keys(m)) {
		list = append(list, table.Entry{Key: api.Hash([]byte(k)), Text: m[k]})
	}
	return list
}

// encoded is a model as the chapter defines it.
func (m model) encoded() string {
	return sealed(body(uint64(len(m)), m.entries()...))
}

// check compares a table with a model.
func check(t *testing.T, name string, x *table.Table, m model) {
	t.Helper()
	if x.Len() != len(m) {
		t.Fatalf("%s: Len %d, want %d", name, x.Len(), len(m))
	}
	if got := x.All(); !slices.Equal(got, m.entries()) {
		t.Fatalf("%s: All %+q, want %+q", name, got, m.entries())
	}
	for k, want := range m {
		if s, ok := x.Get(api.Hash([]byte(k))); s != want || !ok {
			t.Fatalf("%s: Get(%x): %q, %v, want %q", name, k, s, ok, want)
		}
	}
	if got := x.Bytes(); got != m.encoded() {
		t.Fatalf("%s: Bytes %x, want %x", name, got, m.encoded())
	}
}

// randomKey is one of a few, which differ in the first, in the last, or in a middle byte.
func randomKey(r *rand.Rand) api.Hash {
	var k api.Hash
	k[[]int{0, 0, 15, 31}[r.Intn(4)]] = []byte{0, 1, 2, 0x7f, 0x80, 0xff}[r.Intn(6)]
	if r.Intn(4) == 0 {
		r.Read(k[:])
	}
	return k
}

// randomText is mostly short.
func randomText(r *rand.Rand) string {
	b := make([]byte, []int{0, 1, 1, 1, 2, 5, 247, 248, 300}[r.Intn(9)])
	for i := range b {
		b[i] = byte(r.Intn(3)) - 1
	}
	return string(b)
}

// randomModel has up to so many entries.
func randomModel(r *rand.Rand, most int) model {
	m := model{}
	for range r.Intn(most + 1) {
		k := randomKey(r)
		m[string(k[:])] = randomText(r)
	}
	return m
}

// tableOf is a model's table, put in a random order.
func tableOf(r *rand.Rand, m model) *table.Table {
	list := m.entries()
	r.Shuffle(len(list), func(i, j int) { list[i], list[j] = list[j], list[i] })
	return filled(list...)
}

// P22.1: the zero table is empty.
func TestEmpty(t *testing.T) {
	var x, y table.Table
	check(t, "zero", &x, model{})
	if s, ok := x.Get(api.Hash{}); s != "" || ok {
		t.Errorf("Get: %q, %v", s, ok)
	}
	if !x.Within(&y) || !x.Within(&x) || !x.Within(filled(table.Entry{})) || filled(table.Entry{}).Within(&x) {
		t.Error("Within")
	}
	c := x.Clone()
	check(t, "clone", c, model{})
	c.Put(key(1), "a")
	x.Put(key(2), "b")
	check(t, "clone, then Put", c, model{text(1): "a"})
	check(t, "zero, then Put", &x, model{text(2): "b"})
	p, e := table.Parse(y.Bytes())
	if e != api.OK || p == nil {
		t.Fatalf("Parse: %d", e)
	}
	check(t, "parsed", p, model{})
	if !p.Put(key(3), "") {
		t.Error("Put into what was parsed")
	}
}

// P22.1: Put adds an entry if the key is not there, and otherwise changes nothing.
func TestPut(t *testing.T) {
	var x table.Table
	h := key(7)
	if !x.Put(h, "a") || x.Put(h, "b") || x.Put(h, "a") || x.Put(h, "") {
		t.Error("Put")
	}
	if s, ok := x.Get(h); s != "a" || !ok {
		t.Errorf("Get: %q, %v", s, ok)
	}
	check(t, "once", &x, model{text(7): "a"})
	// A key is there even if its string is empty.
	if !x.Put(api.Hash{}, "") || x.Put(api.Hash{}, "c") {
		t.Error("Put of an empty string")
	}
	if s, ok := x.Get(api.Hash{}); s != "" || !ok {
		t.Errorf("Get of an empty string: %q, %v", s, ok)
	}
	if s, ok := x.Get(key(7, 1)); s != "" || ok {
		t.Errorf("Get of another key: %q, %v", s, ok)
	}
	check(t, "twice", &x, model{text(7): "a", text(): ""})
}

// P22.1: entries are in ascending order of keys, bytewise, in whatever order they came.
func TestOrder(t *testing.T) {
	last := api.Hash{31: 1}
	want := []table.Entry{{Key: key(), Text: "z"}, {Key: last, Text: "y"}, {Key: key(0, 1), Text: "x"}, {Key: key(1), Text: ""}, {Key: key(0x7f, 0xff), Text: "a"}, {Key: key(0x80), Text: "m"}, {Key: key(0xff), Text: "b"}}
	r := rand.New(rand.NewSource(1))
	for range 100 {
		list := slices.Clone(want)
		r.Shuffle(len(list), func(i, j int) { list[i], list[j] = list[j], list[i] })
		x := filled(list...)
		if got := x.All(); !slices.Equal(got, want) {
			t.Fatalf("%+q", got)
		}
		if x.Bytes() != sealed(body(7, want...)) {
			t.Fatalf("%x", x.Bytes())
		}
	}
}

// P22.1: Within looks at keys and at strings, and not at the number of entries alone.
func TestWithin(t *testing.T) {
	a, b, other := table.Entry{Key: key(1), Text: "a"}, table.Entry{Key: key(2), Text: "b"}, table.Entry{Key: key(2), Text: "c"}
	for _, c := range []struct {
		x, o *table.Table
		want bool
	}{
		{filled(), filled(), true},
		{filled(), filled(a), true},
		{filled(a), filled(), false},
		{filled(a), filled(a), true},
		{filled(a), filled(b), false},
		{filled(a), filled(b, a), true},
		{filled(a, b), filled(b, a), true},
		{filled(a, b), filled(a), false},
		{filled(a, b), filled(a, other), false},
		{filled(b), filled(other), false},
		{filled(other), filled(a, b), false},
		{filled(table.Entry{Key: key(3)}), filled(a, b), false},
		{filled(table.Entry{Key: key(1)}), filled(a, b), false},
	} {
		if got := c.x.Within(c.o); got != c.want {
			t.Errorf("%+q in %+q: %v", c.x.All(), c.o.All(), got)
		}
	}
}

// P22.1: all calls, after any sequence of them, against models; and several tables at once, which do not influence each other.
func TestSequences(t *testing.T) {
	r := rand.New(rand.NewSource(2))
	for range 300 {
		tables, models := []*table.Table{{}}, []model{{}}
		for range 60 {
			i := r.Intn(len(tables))
			x, m := tables[i], models[i]
			switch r.Intn(10) {
			case 0:
				tables, models = append(tables, x.Clone()), append(models, maps.Clone(m))
			case 1:
				y, e := table.Parse(x.Bytes())
				if e != api.OK {
					t.Fatalf("Parse: %d", e)
				}
				tables, models = append(tables, y), append(models, maps.Clone(m))
			case 2:
				j := r.Intn(len(tables))
				want := true
				for k, s := range m {
					got, found := models[j][k]
					want = want && found && got == s
				}
				if x.Within(tables[j]) != want {
					t.Fatalf("Within: %v, want %v", !want, want)
				}
			case 3:
				k := randomKey(r)
				want, found := m[string(k[:])]
				if s, ok := x.Get(k); s != want || ok != found {
					t.Fatalf("Get: %q, %v, want %q, %v", s, ok, want, found)
				}
			default:
				k, s := randomKey(r), randomText(r)
				_, found := m[string(k[:])]
				if x.Put(k, s) == found {
					t.Fatalf("Put: %v", found)
				}
				if !found {
					m[string(k[:])] = s
				}
			}
		}
		for i := range tables {
			check(t, fmt.Sprint("table ", i), tables[i], models[i])
		}
	}
}

// P22.2: the encoding is the one described, and depends only on the entries; Parse inverts it.
func TestInverse(t *testing.T) {
	r := rand.New(rand.NewSource(3))
	tables := map[string]string{}
	for range 2000 {
		m := randomModel(r, 8)
		x := tableOf(r, m)
		s := x.Bytes()
		if s != m.encoded() || tableOf(r, m).Bytes() != s || x.Clone().Bytes() != s || x.Bytes() != s {
			t.Fatalf("%+q: %x", m, s)
		}
		y, e := table.Parse(s)
		if e != api.OK {
			t.Fatalf("%+q: %d", m, e)
		}
		check(t, "parsed", y, m)
		if !x.Within(y) || !y.Within(x) {
			t.Fatalf("%+q: not the same", m)
		}
		told := fmt.Sprint(m)
		if other, found := tables[s]; found && other != told {
			t.Fatalf("%q and %q: %x", told, other, s)
		}
		tables[s] = told
	}
	if s := filled(table.Entry{Key: key(1), Text: "ab"}).Bytes(); s != sealed("ORDEALT1\x01\x01"+strings.Repeat("\x00", 31)+"\x02ab") {
		t.Errorf("%x", s)
	}
}

// P22.2: the count and the lengths may need several bytes.
func TestManyEntries(t *testing.T) {
	r := rand.New(rand.NewSource(4))
	for _, n := range []int{247, 248, 256, 3000} {
		m := model{}
		for len(m) < n {
			var k api.Hash
			r.Read(k[:])
			m[string(k[:])] = randomText(r)
		}
		x := tableOf(r, m)
		check(t, fmt.Sprint(n), x, m)
		y, e := table.Parse(x.Bytes())
		if e != api.OK {
			t.Fatalf("%d: %d", n, e)
		}
		check(t, fmt.Sprint(n, " parsed"), y, m)
	}
}

// P22.1: Parse returns the first error, and nil beside it.
func TestParseErrors(t *testing.T) {
	a, b, c := table.Entry{Key: key(1), Text: "a"}, table.Entry{Key: key(2), Text: "bb"}, table.Entry{Key: key(3)}
	long := table.Entry{Key: key(2), Text: strings.Repeat("x", api.MaxRecord+1)}
	longest := table.Entry{Key: key(2), Text: long.Text[1:]}
	good := sealed(body(2, a, b))
	for _, x := range []struct {
		name, text string
		want       api.Errno
	}{
		{"nothing", "", api.ErrEnd},
		{"39 bytes", strings.Repeat("x", 39), api.ErrEnd},
		{"39 sealed bytes", sealed("ORDEALT"), api.ErrEnd},
		{"sealed nothing", sealed(""), api.ErrEnd},
		{"40 bytes", strings.Repeat("x", 40), api.ErrSum},
		{"the mark and zeros", "ORDEALT1" + strings.Repeat("\x00", 33), api.ErrSum},
		{"a wrong mark, and no seal", "ORDEALT2" + strings.Repeat("\x00", 33), api.ErrSum},
		{"bytes behind the seal", good + "\x00", api.ErrSum},
		{"the last byte is missing", good[:len(good)-1], api.ErrSum},
		{"a seal of the seal", sealed(good), api.ErrForm},
		{"a wrong mark", sealed("ORDEALT2\x00"), api.ErrForm},
		{"a wrong mark alone", sealed("ordealt1"), api.ErrForm},
		{"the mark too late", sealed(" ORDEALT1\x00"), api.ErrForm},
		{"a wrong mark, and a bad number", sealed("XRDEALT1\xf8\x00"), api.ErrForm},
		{"the mark alone", sealed("ORDEALT1"), api.ErrEnd},
		{"no entries", sealed(body(0)), api.OK},
		{"a bad count", sealed("ORDEALT1\xf8\x00"), api.ErrForm},
		{"half a count", sealed("ORDEALT1\xf9\x01"), api.ErrEnd},
		{"no entry", sealed(body(1)), api.ErrEnd},
		{"as many entries as there are numbers", sealed(body(1<<64-1, a)), api.ErrEnd},
		{"as many entries as an int64 has", sealed(body(1<<63, a, b)), api.ErrEnd},
		{"half a key", sealed(body(1) + string(make([]byte, 31))), api.ErrEnd},
		{"no string", sealed(body(1) + string(make([]byte, 32))), api.ErrEnd},
		{"half a string", sealed(body(1, b)[:len(body(1, b))-1]), api.ErrEnd},
		{"a bad length", sealed(body(1) + string(make([]byte, 32)) + "\xf8\x01x"), api.ErrForm},
		{"one entry", sealed(body(1, a)), api.OK},
		{"two entries", good, api.OK},
		{"one entry is missing", sealed(body(3, a, b)), api.ErrEnd},
		{"one entry too many", sealed(body(1, a, b)), api.ErrForm},
		{"bytes are left", sealed(body(1, a) + "\x00"), api.ErrForm},
		{"bytes are left behind nothing", sealed(body(0) + "\x00"), api.ErrForm},
		{"the longest string", sealed(body(2, a, longest)), api.OK},
		{"a string that is too long", sealed(body(2, a, long)), api.ErrMany},
		{"a string that would be too long", sealed(body(1) + string(make([]byte, 32)) + "\xfa\x40\x00\x01"), api.ErrMany},
		{"a string that would be far too long", sealed(body(1) + string(make([]byte, 32)) + "\xff" + strings.Repeat("\xff", 8)), api.ErrMany},
		{"a string that would be the longest", sealed(body(1) + string(make([]byte, 32)) + "\xfa\x40\x00\x00"), api.ErrEnd},
		{"the same key twice", sealed(body(2, a, a)), api.ErrOrder},
		{"the same key with another string", sealed(body(2, b, table.Entry{Key: key(2), Text: "c"})), api.ErrOrder},
		{"the zero key twice", sealed(body(2, table.Entry{}, table.Entry{Text: "a"})), api.ErrOrder},
		{"the zero key first", sealed(body(2, table.Entry{}, a)), api.OK},
		{"the zero key last", sealed(body(2, a, table.Entry{})), api.ErrOrder},
		{"descending keys", sealed(body(2, b, a)), api.ErrOrder},
		{"the last key descends", sealed(body(3, a, c, b)), api.ErrOrder},
		{"the second key descends", sealed(body(3, b, a, c)), api.ErrOrder},
		{"descending, then the end", sealed(body(3, b, a)), api.ErrOrder},
		{"descending, then bytes are left", sealed(body(2, b, a) + "x"), api.ErrOrder},
		{"descending, then a string that is too long", sealed(body(3, c, a, long)), api.ErrOrder},
		{"descending, but the string is too long", sealed(body(2, c, long)), api.ErrMany},
		{"descending, but the string ends", sealed(body(2, c, b)[:len(body(2, c, b))-1]), api.ErrEnd},
		{"descending, but a bad length", sealed(body(2, a) + string(make([]byte, 32)) + "\xf8\x01x"), api.ErrForm},
	} {
		y, e := table.Parse(x.text)
		if e != x.want || (y == nil) != (e != api.OK) {
			t.Errorf("%s: %d, want %d", x.name, e, x.want)
		}
		if e == api.OK && y.Bytes() != x.text {
			t.Errorf("%s: not the only encoding", x.name)
		}
	}
}

// P22.1 and P22.2: an encoding in which something was changed, or that was cut off, is none.
func TestBent(t *testing.T) {
	s := filled(table.Entry{Key: key(1), Text: "a"}, table.Entry{Key: key(2), Text: "bb"}).Bytes()
	for i := range 8 * len(s) {
		b := []byte(s)
		b[i/8] ^= 1 << (i % 8)
		if y, e := table.Parse(string(b)); y != nil || e != api.ErrSum {
			t.Errorf("bit %d: %d", i, e)
		}
	}
	for n := range len(s) {
		want := api.ErrSum
		if n < 40 {
			want = api.ErrEnd
		}
		if y, e := table.Parse(s[:n]); y != nil || e != want {
			t.Errorf("%d bytes: %d", n, e)
		}
	}
}

// P22.1 and P22.2: whatever Parse accepts, under any seal, is the only encoding of its table.
func TestParseRandom(t *testing.T) {
	r := rand.New(rand.NewSource(5))
	found := map[api.Errno]int{}
	for range 20000 {
		m := randomModel(r, 3)
		list := m.entries()
		if r.Intn(4) == 0 {
			r.Shuffle(len(list), func(i, j int) { list[i], list[j] = list[j], list[i] })
		}
		b := []byte(body(uint64(len(list)), list...))
		if r.Intn(4) > 0 {
			switch at := r.Intn(len(b)); r.Intn(3) {
			case 0:
				b[at] = byte(r.Intn(256))
			case 1:
				b = slices.Delete(b, at, at+1)
			default:
				b = slices.Insert(b, at, byte(r.Intn(256)))
			}
		}
		s := sealed(string(b))
		y, e := table.Parse(s)
		if (y == nil) != (e != api.OK) || y != nil && y.Bytes() != s {
			t.Fatalf("%x: %d", s, e)
		}
		found[e]++
	}
	for _, e := range []api.Errno{api.OK, api.ErrEnd, api.ErrForm, api.ErrOrder} {
		if found[e] < 100 {
			t.Errorf("%d only %d times", e, found[e])
		}
	}
}

// K3: what All and Clone return is new memory.
func TestNothingIsShared(t *testing.T) {
	m := model{text(1): "a", text(2): "b"}
	x := filled(m.entries()...)
	clear(x.All())
	check(t, "All", x, m)
	list := append(x.All(), table.Entry{Key: key(3)})
	list[0].Text = "c"
	check(t, "All, appended to", x, m)
	c := x.Clone()
	c.Put(key(3), "c")
	check(t, "Clone", x, m)
	x.Put(key(4), "d")
	check(t, "of Clone", c, model{text(1): "a", text(2): "b", text(3): "c"})
}
