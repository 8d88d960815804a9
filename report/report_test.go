package report_test

import (
	"crypto/sha256"
	"fmt"
	"math/rand"
	"slices"
	"strings"
	"testing"

	"ordeal/api"
	"ordeal/disk"
	"ordeal/outcome"
	"ordeal/report"
	"ordeal/run"
	"ordeal/table"
	"ordeal/verdict"
)

// Texts of a corpus.
const (
	passing   = "thread\nstore x 1\nstore y 1\nthread\nload r0 y\nload r1 x\nask 1:r0=1 1:r1=0"
	buffering = "thread\nstore x 1\nload r0 y\nthread\nstore y 1\nload r0 x\nask 0:r0=0 1:r0=0"
	guarded   = "init x=7\nthread\nstore x 8\nstore y 9\nthread\nload r0 y\nfence r r\nload r1 x\nbeq r0 9 1\nli r1 8\nask 1:r1=8"
	pair      = "thread\nlr r0 x\nsc r1 x 5\nask x=5"
)

// filled is a table with these strings, in the order of their names.
func filled(list ...string) *table.Table {
	var t table.Table
	for i, s := range list {
		t.Put(name(i), s)
	}
	return &t
}

// name is the key of number i.
func name(i int) api.Hash {
	return api.Hash{byte(i >> 8), byte(i), 0xef}
}

// digits are those of the key of number i.
func digits(i int) string {
	return fmt.Sprintf("%04xef", i) + strings.Repeat("0", 58)
}

// set is one of states that have these numbers.
func set(list ...[]uint64) outcome.Set {
	var all outcome.Set
	for _, numbers := range list {
		x := outcome.State{N: len(numbers)}
		copy(x.V[:], numbers)
		all = append(all, x)
	}
	return all
}

// numbers are n states of one number each.
func numbers(n int) outcome.Set {
	var all outcome.Set
	for i := range uint64(n) {
		all = append(all, set([]uint64{3 * i})...)
	}
	return all
}

// P25.1: the example of the chapter.
func TestExample(t *testing.T) {
	const empty = "ordeal report 0\nend\n"
	if s, e := report.Text(&table.Table{}); e != api.OK || s != empty {
		t.Errorf("%q, %d", s, e)
	}
	x, e := report.Parse(empty)
	if e != api.OK || x == nil || x.Len() != 0 {
		t.Errorf("%d", e)
	}
	if c, e := report.Count(&table.Table{}); e != api.OK || c != (report.Counts{}) {
		t.Errorf("%+v, %d", c, e)
	}
}

// P25.1: the lines of single texts, and what is counted.
func TestLines(t *testing.T) {
	for _, c := range []struct {
		text, kind, want string
		counts           report.Counts
	}{
		{"fly", "rejected\n", " rejected 10 line 1\n", report.Counts{All: 1, Rejected: 1}},
		{"", "rejected\n", " rejected 15 line 0\n", report.Counts{All: 1, Rejected: 1}},
		{strings.Repeat("\n", 1999) + "?", "rejected\n", " rejected 10 line 2000\n", report.Counts{All: 1, Rejected: 1}},
		{
			"thread", "test\nthread\n", " test 0 always always\n tr\n",
			report.Counts{All: 1, Tso: [3]int{0, 0, 1}, Rv: [3]int{0, 0, 1}},
		},
		{
			"init x=18446744073709551615\nthread\nask x=0", "test\ninit x=18446744073709551615\nthread\nask x=0\n",
			" test 1 never never\n tr 18446744073709551615\n",
			report.Counts{All: 1, Tso: [3]int{1, 0, 0}, Rv: [3]int{1, 0, 0}},
		},
		{
			passing, "test\ninit x=0 y=0\n" + passing + "\n", " test 4 never sometimes\n tr 0 0 1 1\n tr 0 1 1 1\n r 1 0 1 1\n tr 1 1 1 1\n",
			report.Counts{All: 1, Tso: [3]int{1, 0, 0}, Rv: [3]int{0, 1, 0}, Unlike: 1},
		},
		{
			buffering, "test\ninit x=0 y=0\n" + buffering + "\n", " test 4 sometimes sometimes\n tr 0 0 1 1\n tr 0 1 1 1\n tr 1 0 1 1\n tr 1 1 1 1\n",
			report.Counts{All: 1, Tso: [3]int{0, 1, 0}, Rv: [3]int{0, 1, 0}},
		},
		{
			guarded, "test\n" + strings.Replace(guarded, "x=7", "x=7 y=0", 1) + "\n",
			" test 4 always sometimes\n tr 0 8 8 9\n r 9 7 8 9\n tr 9 8 8 9\n",
			report.Counts{All: 1, Tso: [3]int{0, 0, 1}, Rv: [3]int{0, 1, 0}, Unlike: 1},
		},
		{
			pair, "test\ninit x=0\n" + pair + "\n", " test 3 none sometimes\n r 0 0 5\n r 0 1 0\n",
			report.Counts{All: 1, Pairs: 1, Rv: [3]int{0, 1, 0}},
		},
	} {
		k, v := verdict.Judge(c.text)
		var x table.Table
		x.Put(k, v.Write())
		source := c.kind
		if v.Why != api.OK {
			source += c.text
		}
		want := fmt.Sprintf("ordeal report 1\n%x%send\n", sha256.Sum256([]byte(source)), c.want)
		if s, e := report.Text(&x); e != api.OK || s != want {
			t.Errorf("%.20q: %q, %d", c.text, s, e)
		}
		if counts, e := report.Count(&x); e != api.OK || counts != c.counts {
			t.Errorf("%.20q: %+v, %d", c.text, counts, e)
		}
		if y, e := report.Parse(want); e != api.OK || y.Bytes() != x.Bytes() {
			t.Errorf("%.20q: %d", c.text, e)
		}
	}
}

// P25.1: states that only the machine with store buffers has, empty sets, and kinds that no test has with them.
func TestVerdicts(t *testing.T) {
	for _, c := range []struct {
		v    verdict.Verdict
		want string
	}{
		{verdict.Verdict{Why: 17, Line: 2001}, " rejected 17 line 2001\n"},
		{verdict.Verdict{Why: 1}, " rejected 1 line 0\n"},
		{verdict.Verdict{}, " test 0 none never\n"},
		{verdict.Verdict{N: 40, HasTso: true, AskTso: 2, AskRv: 1}, " test 40 always sometimes\n"},
		{verdict.Verdict{HasTso: true, Tso: set(nil)}, " test 0 never never\n t\n"},
		{verdict.Verdict{HasTso: true, Rv: set(nil)}, " test 0 never never\n r\n"},
		{verdict.Verdict{Rv: set(nil)}, " test 0 none never\n r\n"},
		{
			verdict.Verdict{N: 2, HasTso: true, AskTso: 1, AskRv: 2, Tso: set([]uint64{0, 10}, []uint64{1, 1}, []uint64{9, 0}), Rv: set([]uint64{0, 9}, []uint64{1, 1}, []uint64{10, 0})},
			" test 2 sometimes always\n r 0 9\n t 0 10\n tr 1 1\n t 9 0\n r 10 0\n",
		},
	} {
		x := filled(c.v.Write())
		want := "ordeal report 1\n" + digits(0) + c.want + "end\n"
		if s, e := report.Text(x); e != api.OK || s != want {
			t.Errorf("%+v: %q, %d", c.v, s, e)
		}
		if y, e := report.Parse(want); e != api.OK || y.Bytes() != x.Bytes() {
			t.Errorf("%+v: %d", c.v, e)
		}
	}
}

// P25.1: entry by entry, in the order of the keys; all of them are counted.
func TestEntries(t *testing.T) {
	x := table.Table{}
	want := report.Counts{All: 300, Rejected: 75, Pairs: 75, Tso: [3]int{75, 0, 75}, Rv: [3]int{75, 75, 75}, Unlike: 75}
	text := "ordeal report 300\n"
	for i := range 300 {
		text += []string{
			digits(i) + " rejected 11 line 3\n",
			digits(i) + " test 1 none sometimes\n r 5\n",
			digits(i) + " test 1 always always\n tr 5\n tr 6\n",
			digits(i) + " test 1 never never\n t 5\n",
		}[i%4]
	}
	text += "end\n"
	encoded := []string{"\x0b\x03", "\x00\x01\x00\x01\x01\x05", "\x00\x01\x03\x02\x05\x06\x02\x02\x05\x06", "\x00\x01\x01\x01\x05\x00\x00"}
	for i := range 300 {
		at := i * 7 % 300
		x.Put(name(at), encoded[at%4])
	}
	if s, e := report.Text(&x); e != api.OK || s != text {
		t.Errorf("%q, %d", s, e)
	}
	if c, e := report.Count(&x); e != api.OK || c != want {
		t.Errorf("%+v, %d", c, e)
	}
	if y, e := report.Parse(text); e != api.OK || y.Bytes() != x.Bytes() {
		t.Errorf("%d", e)
	}
}

// P25.1: Text and Count return verdict.Read's error for the first entry that is no verdict, and nothing beside it.
func TestNoVerdicts(t *testing.T) {
	good, end, form, many := "\x0a\x01", "\x0a", "\x0a\x01\x00", "\x00\x01\x00\x00\xfa\x01\x86\xa1"
	for _, c := range []struct {
		name string
		list []string
		want api.Errno
	}{
		{"nothing", []string{""}, api.ErrEnd},
		{"an end", []string{end}, api.ErrEnd},
		{"no form", []string{form}, api.ErrForm},
		{"many", []string{many}, api.ErrMany},
		{"the last", []string{good, good, many}, api.ErrMany},
		{"the first", []string{form, good, good}, api.ErrForm},
		{"the first of several", []string{good, many, form, end}, api.ErrMany},
		{"the first of several others", []string{good, end, many, form}, api.ErrEnd},
		{"states not in order", []string{good, "\x00\x01\x00\x00\x02\x06\x05"}, api.ErrForm},
		{"Why above", []string{good, "\x12\x00"}, api.ErrForm},
	} {
		x := filled(c.list...)
		if s, e := report.Text(x); e != c.want || s != "" {
			t.Errorf("%s: %q, %d", c.name, s, e)
		}
		if counts, e := report.Count(x); e != c.want || counts != (report.Counts{}) {
			t.Errorf("%s: %+v, %d", c.name, counts, e)
		}
	}
}

// P25.1 and P25.2: Text, Count and Parse on random tables, against a second implementation; only the entries matter.
func TestRandom(t *testing.T) {
	r := rand.New(rand.NewSource(1))
	for range 3000 {
		m := randomModel(r)
		x, y := m.table(r), m.table(r)
		before := x.Bytes()
		want := m.rendered()
		s, e := report.Text(x)
		if e != api.OK || s != want {
			t.Fatalf("%q, %d, want %q", s, e, want)
		}
		if again, e := report.Text(y); e != api.OK || again != s {
			t.Fatalf("%q, %d, then %q", s, e, again)
		}
		if c, e := report.Count(x); e != api.OK || c != m.counts() {
			t.Fatalf("%q: %+v, %d, want %+v", s, c, e, m.counts())
		}
		z, e := report.Parse(s)
		if e != api.OK || z.Bytes() != before {
			t.Fatalf("%q: %d", s, e)
		}
		if again, e := report.Text(z); e != api.OK || again != s {
			t.Fatalf("%q, %d, then %q", s, e, again)
		}
		if x.Bytes() != before {
			t.Fatalf("%q: the table was changed", s)
		}
	}
}

// one is a report of a single entry with these lines, behind its key.
func one(lines string) string {
	return "ordeal report 1\n" + digits(0) + lines + "end\n"
}

// P25.1: what Parse returns for texts that are no reports.
func TestParseErrors(t *testing.T) {
	const (
		reject = " rejected 10 line 1\n"
		test   = " test 1 never always\n"
	)
	a, b := digits(0), digits(1)
	upper := strings.Replace(a, "ef", "EF", 1)
	for _, c := range []struct {
		name, text string
		want       api.Errno
	}{
		{"nothing", "", api.ErrForm},
		{"an empty line", "\n", api.ErrForm},
		{"only the end", "end\n", api.ErrForm},
		{"no end", "ordeal report 0\n", api.ErrForm},
		{"no line ends", "ordeal report 0", api.ErrForm},
		{"no end behind an entry", "ordeal report 1\n" + a + reject, api.ErrForm},
		{"a blank before the title", " ordeal report 0\nend\n", api.ErrForm},
		{"a line before the title", "\nordeal report 0\nend\n", api.ErrForm},
		{"another title", "ordeal reports 0\nend\n", api.ErrForm},
		{"a title in upper case", "Ordeal report 0\nend\n", api.ErrForm},
		{"a blank behind the title", "ordeal report 0 \nend\n", api.ErrForm},
		{"two blanks in the title", "ordeal report  0\nend\n", api.ErrForm},
		{"no number", "ordeal report \nend\n", api.ErrForm},
		{"no number and no blank", "ordeal report\nend\n", api.ErrForm},
		{"two zeros", "ordeal report 00\nend\n", api.ErrForm},
		{"a leading zero", "ordeal report 01\n" + a + reject + "end\n", api.ErrForm},
		{"a sign", "ordeal report +0\nend\n", api.ErrForm},
		{"another sign", "ordeal report -0\nend\n", api.ErrForm},
		{"below zero", "ordeal report -1\nend\n", api.ErrForm},
		{"a hexadecimal number", "ordeal report 0x1\n" + a + reject + "end\n", api.ErrForm},
		{"too few entries", "ordeal report 1\nend\n", api.ErrForm},
		{"far too few entries", "ordeal report 18446744073709551615\nend\n", api.ErrForm},
		{"too many for a number", "ordeal report 18446744073709551616\nend\n", api.ErrForm},
		{"an entry too many", "ordeal report 0\n" + a + reject + "end\n", api.ErrForm},
		{"an entry too many behind others", "ordeal report 1\n" + a + reject + b + reject + "end\n", api.ErrForm},
		{"a byte 13", "ordeal report 0\r\nend\r\n", api.ErrForm},
		{"a byte 13 at the end", "ordeal report 0\nend\r\n", api.ErrForm},
		{"an empty line before the end", "ordeal report 0\n\nend\n", api.ErrForm},
		{"a blank before the end", "ordeal report 0\n end\n", api.ErrForm},
		{"a blank behind the end", "ordeal report 0\nend \n", api.ErrForm},
		{"another end", "ordeal report 0\nend.\n", api.ErrForm},
		{"half an end", "ordeal report 0\nen", api.ErrForm},

		{"nothing behind the line of the end", "ordeal report 0\nend", api.ErrOrder},
		{"an empty line behind the end", "ordeal report 0\nend\n\n", api.ErrOrder},
		{"a byte behind the end", "ordeal report 0\nend\nx", api.ErrOrder},
		{"a report behind the end", "ordeal report 0\nend\nordeal report 0\nend\n", api.ErrOrder},
		{"anything behind the end", one(reject) + "\xff\x00\n end", api.ErrOrder},

		{"a good rejection", one(reject), api.OK},
		{"the least rejection", one(" rejected 1 line 0\n"), api.OK},
		{"the greatest rejection", one(" rejected 17 line 2001\n"), api.OK},
		{"Why 0", one(" rejected 0 line 1\n"), api.ErrForm},
		{"Why 0 and line 0", one(" rejected 0 line 0\n"), api.ErrForm},
		{"Why above", one(" rejected 18 line 1\n"), api.ErrForm},
		{"Why far above", one(" rejected 18446744073709551615 line 1\n"), api.ErrForm},
		{"Why further above", one(" rejected 18446744073709551626 line 1\n"), api.ErrForm},
		{"Line above", one(" rejected 10 line 2002\n"), api.ErrForm},
		{"Line far above", one(" rejected 10 line 18446744073709551615\n"), api.ErrForm},
		{"Line below zero", one(" rejected 10 line -1\n"), api.ErrForm},
		{"Why with a zero", one(" rejected 010 line 1\n"), api.ErrForm},
		{"Line with a zero", one(" rejected 10 line 01\n"), api.ErrForm},
		{"no Line", one(" rejected 10 line\n"), api.ErrForm},
		{"an empty Line", one(" rejected 10 line \n"), api.ErrForm},
		{"an empty Why", one(" rejected  line 1\n"), api.ErrForm},
		{"another word for the line", one(" rejected 10 lines 1\n"), api.ErrForm},
		{"another word for rejected", one(" Rejected 10 line 1\n"), api.ErrForm},
		{"a word too many", one(" rejected 10 line 1 1\n"), api.ErrForm},
		{"a blank too many", one(" rejected 10 line 1 \n"), api.ErrForm},
		{"two blanks", one("  rejected 10 line 1\n"), api.ErrForm},
		{"a state of a rejection", one(reject + " tr 1\n"), api.ErrForm},
		{"a state of no numbers of a rejection", one(reject + " r\n"), api.ErrForm},
		{"a key that is too short", "ordeal report 1\n" + a[1:] + reject + "end\n", api.ErrForm},
		{"a key that is too long", "ordeal report 1\n0" + a + reject + "end\n", api.ErrForm},
		{"a key in upper case", "ordeal report 1\n" + upper + reject + "end\n", api.ErrForm},
		{"no key", "ordeal report 1\n" + reject[1:] + "end\n", api.ErrForm},
		{"an empty key", "ordeal report 1\n" + reject + "end\n", api.ErrForm},
		{"only a key", one("\n"), api.ErrForm},

		{"a good test", one(test + " tr 1\n"), api.OK},
		{"a test without states", one(test), api.OK},
		{"N above", one(" test 41 never always\n"), api.ErrForm},
		{"N far above", one(" test 18446744073709551615 never always\n"), api.ErrForm},
		{"N with a zero", one(" test 00 never always\n"), api.ErrForm},
		{"N below zero", one(" test -1 never always\n"), api.ErrForm},
		{"no N", one(" test never always\n"), api.ErrForm},
		{"no RVWMO", one(" test 1 never\n"), api.ErrForm},
		{"RVWMO none", one(" test 1 never none\n"), api.ErrForm},
		{"both none", one(" test 1 none none\n"), api.ErrForm},
		{"another kind", one(" test 1 seldom always\n"), api.ErrForm},
		{"another kind under RVWMO", one(" test 1 never seldom\n"), api.ErrForm},
		{"an empty kind", one(" test 1  always\n"), api.ErrForm},
		{"a kind in upper case", one(" test 1 Never always\n"), api.ErrForm},
		{"a word too many behind a test", one(" test 1 never always 1\n"), api.ErrForm},
		{"another mark", one(test + " rt 1\n"), api.ErrForm},
		{"an empty mark", one(test + "  1\n"), api.ErrForm},
		{"no mark", one(test + " 1\n"), api.ErrForm},
		{"nothing in a state", one(test + " \n"), api.ErrForm},
		{"no blank before a state", one(test + "tr 1\n"), api.ErrForm},
		{"two blanks before a state", one(test + "  tr 1\n"), api.ErrForm},
		{"two blanks in a state", one(test + " tr  1\n"), api.ErrForm},
		{"a blank behind a state", one(test + " tr 1 \n"), api.ErrForm},
		{"a number too many", one(test + " tr 1 1\n"), api.ErrForm},
		{"a number too few", one(test + " tr\n"), api.ErrForm},
		{"a number with a zero", one(test + " tr 01\n"), api.ErrForm},
		{"a number with a sign", one(test + " tr +1\n"), api.ErrForm},
		{"a number with a line below", one(test + " tr 1_0\n"), api.ErrForm},
		{"the greatest number", one(test + " tr 18446744073709551615\n"), api.OK},
		{"a number above", one(test + " tr 18446744073709551616\n"), api.ErrForm},
		{"an empty line behind a state", one(test + " tr 1\n\n"), api.ErrForm},
		{"a state in Tso of none", one(" test 1 none never\n t 1\n"), api.ErrForm},
		{"a state in both of none", one(" test 1 none never\n tr 1\n"), api.ErrForm},
		{"a state in Rv of none", one(" test 1 none never\n r 1\n"), api.OK},
		{"Tso not in order", one(test + " t 2\n t 1\n"), api.ErrForm},
		{"Rv not in order", one(test + " r 2\n r 1\n"), api.ErrForm},
		{"Rv not in order, but Tso", one(test + " r 2\n tr 1\n"), api.ErrForm},
		{"Tso not in order, but Rv", one(test + " t 2\n tr 1\n"), api.ErrForm},
		{"Tso not in order, with Rv between", one(test + " t 2\n r 0\n t 1\n"), api.ErrForm},
		{"a state twice", one(test + " tr 1\n tr 1\n"), api.ErrForm},
		{"a state twice in Tso", one(test + " tr 1\n t 1\n"), api.ErrForm},
		{"a state of no numbers twice", one(" test 0 never never\n r\n r\n"), api.ErrForm},
		{"order is of numbers", one(test + " tr 9\n tr 10\n"), api.OK},
		{"and not of texts", one(test + " tr 10\n tr 9\n"), api.ErrForm},

		{"Rv behind Tso", one(test + " t 2\n r 1\n"), api.ErrOrder},
		{"Tso behind Rv", one(test + " r 2\n t 1\n"), api.ErrOrder},
		{"one behind both", one(test + " t 2\n r 1\n tr 3\n"), api.ErrOrder},
		{"a state in two lines", one(test + " t 1\n r 1\n"), api.ErrOrder},
		{"a state in two other lines", one(test + " r 1\n t 1\n"), api.ErrOrder},
		{"a state of no numbers in two lines", one(" test 0 never never\n t\n r\n"), api.ErrOrder},
		{"both in order", one(test + " r 1\n t 2\n"), api.OK},

		{"two entries", "ordeal report 2\n" + a + reject + b + test + "end\n", api.OK},
		{"descending keys", "ordeal report 2\n" + b + reject + a + test + "end\n", api.ErrOrder},
		{"descending keys, and bytes behind the end", "ordeal report 2\n" + b + reject + a + test + "end\nend\n", api.ErrOrder},
		{"descending keys of three", "ordeal report 3\n" + a + reject + digits(2) + reject + b + test + "end\n", api.ErrOrder},
		{"the same key twice", "ordeal report 2\n" + a + reject + a + reject + "end\n", api.ErrForm},
		{"the same key with another verdict", "ordeal report 2\n" + a + reject + a + test + "end\n", api.ErrForm},
		{"the same key, not at once", "ordeal report 3\n" + a + reject + b + reject + a + test + "end\n", api.ErrForm},
		{"descending keys, and no end", "ordeal report 2\n" + b + reject + a + test, api.ErrForm},
		{"descending keys, and a bad state", "ordeal report 2\n" + b + reject + a + test + " tr 01\nend\n", api.ErrForm},
		{"states in no order, and a bad entry", "ordeal report 2\n" + a + test + " t 2\n r 1\n" + b + " rejected 0 line 0\nend\n", api.ErrForm},
	} {
		x, e := report.Parse(c.text)
		if e != c.want || (x == nil) != (e != api.OK) {
			t.Errorf("%s: %d, want %d", c.name, e, c.want)
		}
		if _, e := parsed(c.text); e != c.want {
			t.Errorf("%s: %d by the model, want %d", c.name, e, c.want)
		}
		if e != api.OK {
			continue
		}
		if s, e := report.Text(x); e != api.OK || s != c.text {
			t.Errorf("%s: again %q, %d", c.name, s, e)
		}
	}
}

// P25.1 and P25.2: a report that is cut off anywhere is none, only that the missing byte behind the end is not examined.
func TestPrefixes(t *testing.T) {
	r := rand.New(rand.NewSource(2))
	for range 40 {
		s := randomModel(r).rendered()
		for n := range len(s) {
			want := api.ErrForm
			if n == len(s)-1 {
				want = api.ErrOrder
			}
			if x, e := report.Parse(s[:n]); e != want || x != nil {
				t.Fatalf("%q: %d", s[:n], e)
			}
		}
	}
}

// check compares Parse of a text with the second implementation, and returns its error.
func check(t *testing.T, r *rand.Rand, s string) api.Errno {
	t.Helper()
	m, want := parsed(s)
	x, e := report.Parse(s)
	if e != want || (x == nil) != (e != api.OK) {
		t.Fatalf("%q: %d, want %d", s, e, want)
	}
	if e == api.OK && x.Bytes() != m.table(r).Bytes() {
		t.Fatalf("%q: another table", s)
	}
	return e
}

// P25.1: Parse of reports with changes, against a second implementation.
func TestParseRandom(t *testing.T) {
	r := rand.New(rand.NewSource(3))
	found := map[api.Errno]int{}
	for range 20000 {
		found[check(t, r, bent(r, randomModel(r).rendered()))]++
	}
	for _, e := range []api.Errno{api.OK, api.ErrForm, api.ErrOrder} {
		if found[e] < 1000 {
			t.Errorf("%d only %d times", e, found[e])
		}
	}
}

// P25.1: Parse of any bytes, and of lines of reports in any order.
func TestParseBytes(t *testing.T) {
	r := rand.New(rand.NewSource(4))
	for range 20000 {
		b := make([]byte, r.Intn(60))
		r.Read(b)
		check(t, r, string(b))
		lines := []string{
			"end\n", digits(0) + " rejected 1 line 1\n", digits(1) + " test 1 never never\n", digits(2) + " test 1 none always\n",
			" t 1\n", " r 1\n", " tr 2\n", " r 0\n", "\n", "ordeal report 1\n",
		}
		s := fmt.Sprintf("ordeal report %d\n", r.Intn(4))
		for range r.Intn(8) {
			s += lines[r.Intn(len(lines))]
		}
		check(t, r, s+"end\n")
	}
}

// P25.1 and P25.2: sets of 100000 states, which are the greatest that a verdict may have.
func TestMany(t *testing.T) {
	all := numbers(100001)
	v := verdict.Verdict{N: 1, HasTso: true, Tso: all[1:], Rv: all[:100000], AskTso: 1}
	x := filled(v.Write())
	s, e := report.Text(x)
	if e != api.OK || strings.Count(s, "\n tr ") != 99999 || !strings.HasPrefix(s, one(" test 1 sometimes never\n r 0\n tr 3\n")[:100]) {
		t.Fatalf("%.200q, %d", s, e)
	}
	if y, e := report.Parse(s); e != api.OK || y.Bytes() != x.Bytes() {
		t.Errorf("%d", e)
	}
	for _, other := range []string{" tr 0\n", " t 0\n"} {
		if y, e := report.Parse(strings.Replace(s, " r 0\n", other, 1)); e != api.ErrForm || y != nil {
			t.Errorf("%q: %d", other, e)
		}
	}
	if y, e := report.Parse(strings.Replace(s, " r 0\n", "", 1)); e != api.OK || y.Len() != 1 {
		t.Errorf("one less: %d", e)
	}
	endless := one(" test 0 none never\n" + strings.Repeat(" r\n", 1000000))
	if y, e := report.Parse(endless); e != api.ErrForm || y != nil {
		t.Errorf("states of no numbers: %d", e)
	}
}

// P25.2: the report of a campaign depends on the texts only, not on their order, and not on what interrupted it.
func TestCampaign(t *testing.T) {
	corpus := []string{passing, "fly", pair, buffering, guarded, "thread", "fly ", "thread\n"}
	var first string
	for i := range 8 {
		d := disk.New(1 << 20)
		o := run.Options{SyncEvery: 1 + i%3, SaveEvery: 1 + i%2, Limit: 4096}
		c, e := run.Open(d, corpus, o)
		if e != api.OK {
			t.Fatal(e)
		}
		d.Crash(7 * i)
		c.All()
		d.Crash(-1)
		d.Restart([]int{i, 1})
		c, e = run.Open(d, corpus, o)
		if e != api.OK || c.All() != api.OK {
			t.Fatal(e)
		}
		s, e := report.Text(c.Table())
		if e != api.OK || first != "" && s != first {
			t.Fatalf("%q, %d, before %q", s, e, first)
		}
		first = s
		if x, e := report.Parse(s); e != api.OK || x.Bytes() != c.Table().Bytes() {
			t.Fatalf("%q: %d", s, e)
		}
		counts, e := report.Count(c.Table())
		if e != api.OK || counts != (report.Counts{All: 7, Rejected: 2, Pairs: 1, Tso: [3]int{1, 1, 2}, Rv: [3]int{0, 4, 1}, Unlike: 2}) {
			t.Fatalf("%+v, %d", counts, e)
		}
		slices.Reverse(corpus)
	}
}

// K3 and K4: tables of the same report are independent of each other.
func TestNothingIsShared(t *testing.T) {
	s := one(" test 1 never always\n tr 1\n")
	x, _ := report.Parse(s)
	y, _ := report.Parse(s)
	x.Put(name(9), "no verdict")
	if again, e := report.Text(y); e != api.OK || again != s {
		t.Errorf("%q, %d", again, e)
	}
	if text, e := report.Text(x); e != api.ErrForm && e != api.ErrEnd || text != "" {
		t.Errorf("%q, %d", text, e)
	}
}
