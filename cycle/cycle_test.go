package cycle_test

import (
	"math"
	"math/rand"
	"slices"
	"strings"
	"testing"

	"ordeal/api"
	"ordeal/canon"
	"ordeal/cond"
	"ordeal/cycle"
	"ordeal/litmus"
	"ordeal/rvwmo"
	"ordeal/seqc"
	"ordeal/tso"
)

// parsed is the edges of a text.
func parsed(t *testing.T, s string) []cycle.Edge {
	t.Helper()
	l, e := cycle.Parse(s)
	if e != api.OK {
		t.Fatalf("Parse(%q): %d", s, e)
	}
	return l
}

// P27.1: the numbers of kinds and of what edges lead from and to, and which kinds are outer.
func TestOuter(t *testing.T) {
	if cycle.R != 1 || cycle.W != 2 || cycle.MaxEdges != 8 {
		t.Error("numbers")
	}
	kinds := []int{cycle.Rfe, cycle.Fre, cycle.Coe, cycle.Po, cycle.Fence, cycle.Place, cycle.Value, cycle.Path}
	if !slices.Equal(kinds, []int{1, 2, 3, 4, 5, 6, 7, 8}) {
		t.Errorf("kinds: %v", kinds)
	}
	for _, kind := range append(kinds, 0, -1, 9, math.MinInt, math.MaxInt) {
		for from := range 4 {
			e := cycle.Edge{Kind: kind, From: from, To: 3 - from}
			if got := e.Outer(); got != (kind == 1 || kind == 2 || kind == 3) {
				t.Errorf("%+v: %v", e, got)
			}
		}
	}
}

// P27.1: each word is that of its edge, in both directions.
func TestWords(t *testing.T) {
	want := []cycle.Edge{
		{1, 2, 1}, {2, 1, 2}, {3, 2, 2},
		{4, 1, 1}, {4, 1, 2}, {4, 2, 1}, {4, 2, 2},
		{5, 1, 1}, {5, 1, 2}, {5, 2, 1}, {5, 2, 2},
		{6, 1, 1}, {6, 1, 2}, {7, 1, 2}, {8, 1, 2},
	}
	got, e := cycle.Parse(allWords)
	if e != api.OK || !slices.Equal(got, want) {
		t.Errorf("Parse: %v, %d", got, e)
	}
	if s := cycle.Text(want); s != allWords {
		t.Errorf("Text: %q", s)
	}
	for i, word := range strings.Fields(allWords) {
		if got, e := cycle.Parse(word); e != api.OK || !slices.Equal(got, want[i:i+1]) {
			t.Errorf("Parse(%q): %v, %d", word, got, e)
		}
		if s := cycle.Text(want[i : i+1]); s != word {
			t.Errorf("Text(%v): %q", want[i], s)
		}
	}
	if s := cycle.Text(nil); s != "" {
		t.Errorf("Text of none: %q", s)
	}
}

// P27.1: neither Parse nor Text asks whether the edges are a cycle, or how many they are.
func TestLongText(t *testing.T) {
	r := rand.New(rand.NewSource(1))
	all := strings.Fields(allWords)
	for n := 1; n < 300; n++ {
		var words []string
		for range n {
			words = append(words, all[r.Intn(len(all))])
		}
		s := strings.Join(words, " ")
		l, e := cycle.Parse(s)
		if e != api.OK || !slices.Equal(l, edgesOf(words)) {
			t.Fatalf("Parse(%q): %v, %d", s, l, e)
		}
		if got := cycle.Text(l); got != s {
			t.Fatalf("Text: %q, want %q", got, s)
		}
	}
}

// P27.1: Text writes valid edges only.
func TestInvalidText(t *testing.T) {
	valid := map[cycle.Edge]bool{}
	for word := range strings.FieldsSeq(allWords) {
		valid[edgeOf(word)] = true
	}
	po := cycle.Edge{Kind: cycle.Po, From: cycle.R, To: cycle.W}
	for kind := -1; kind < 11; kind++ {
		for from := -1; from < 4; from++ {
			for to := -1; to < 4; to++ {
				e := cycle.Edge{Kind: kind, From: from, To: to}
				if valid[e] {
					continue
				}
				if s := cycle.Text([]cycle.Edge{e}); s != "" {
					t.Errorf("%v: %q", e, s)
				}
				if s := cycle.Text([]cycle.Edge{po, e, po}); s != "po-rw po-rw" {
					t.Errorf("%v between others: %q", e, s)
				}
			}
		}
	}
}

// P27.1: a word that is no edge is ErrText, wherever it stands; so is an empty one.
func TestParseErrors(t *testing.T) {
	words := []string{
		"", " ", "  ", "\t", "\n", "rfe\n", "\trfe", "rfe\tfre", "RFE", "Rfe", "rf", "rfee", "rfe-", "rfe-wr", "fre-rw", "coe-ww", "rfi", "r", "w", "0", "1",
		"po", "po-", "-", "-rr", "po-r", "po-w", "po-rx", "po-xr", "po-RW", "Po-rw", "po-rww", "po-rw-", "po--rw", "po_rw", "porw", "po-rw,", "p-rw", "é",
		"fence", "fence-r", "place", "place-wr", "place-ww", "value", "value-rr", "value-wr", "value-ww", "path", "path-rr", "path-wr", "path-ww", "po-rw\x00", "\xff",
	}
	for _, word := range words {
		texts := []string{word, word + " rfe", "rfe " + word, "po-ww " + word + " fre"}
		for _, s := range texts {
			if l, e := cycle.Parse(s); e != api.ErrText || len(l) != 0 {
				t.Errorf("Parse(%q): %v, %d", s, l, e)
			}
		}
	}
	for _, s := range []string{" rfe", "rfe ", "rfe  fre", "rfe fre "} {
		if l, e := cycle.Parse(s); e != api.ErrText || len(l) != 0 {
			t.Errorf("Parse(%q): %v, %d", s, l, e)
		}
	}
}

// P27.1: Check, each error and the border of each.
func TestCheck(t *testing.T) {
	for s, want := range map[string]api.Errno{
		"po-ww rfe po-rr fre":                   api.OK,
		"po-wr fre po-wr fre":                   api.OK,
		"fre po-wr fre po-wr":                   api.OK,
		"po-ww po-ww coe coe":                   api.OK,
		"coe coe coe coe po-ww po-ww":           api.OK,
		"coe coe po-ww po-ww po-ww po-ww":       api.OK,
		"coe po-ww coe po-ww coe po-ww po-ww":   api.OK,
		"coe coe coe coe po-ww po-ww po-ww":     api.OK,
		"po-ww coe po-ww coe po-ww coe po-ww":   api.OK,
		"rfe fre rfe fre po-ww po-ww":           api.OK,
		"rfe value-rw rfe path-rw":              api.OK,
		"rfe place-rr place-rw coe":             api.OK,
		"po-ww rfe":                             api.ErrOrder, // the last one's target is not the first one's source
		"po-ww rfe po-rr coe":                   api.ErrOrder,
		"rfe rfe":                               api.ErrOrder,
		"po-rw":                                 api.ErrOrder,
		"rfe":                                   api.ErrOrder,
		"fre fre fre fre fre":                   api.ErrOrder, // and too many outer ones
		"po-wr po-wr":                           api.ErrOrder, // and too few
		"coe":                                   api.ErrEmpty,
		"po-ww":                                 api.ErrEmpty,
		"rfe fre":                               api.ErrEmpty,
		"coe coe coe coe coe":                   api.ErrEmpty, // and too many outer ones
		"coe po-ww":                             api.ErrEmpty,
		"coe coe po-ww":                         api.ErrEmpty,
		"coe po-ww po-ww":                       api.ErrEmpty,
		"coe coe coe coe po-ww":                 api.ErrEmpty,
		"coe po-ww po-ww po-ww po-ww":           api.ErrEmpty,
		"po-ww po-ww po-ww po-ww po-ww":         api.ErrEmpty,
		"po-ww coe coe coe po-ww coe coe":       api.ErrMany,
		"coe coe coe coe coe po-ww po-ww":       api.ErrMany,
		"coe coe coe coe coe coe po-ww po-ww":   api.ErrMany,
		strings.Repeat("po-ww ", 6) + "coe coe": api.OK,
		strings.Repeat("po-ww ", 7) + "coe coe": api.ErrMany,
		strings.Repeat("po-ww ", 8) + "coe":     api.ErrMany, // and too few outer ones
		strings.Repeat("po-wr ", 8) + "coe":     api.ErrMany, // and out of order
		strings.Repeat("coe ", 50) + "rfe":      api.ErrMany,
	} {
		if got := cycle.Check(parsed(t, s)); got != want {
			t.Errorf("Check(%q): %d, want %d", s, got, want)
		}
	}
	if e := cycle.Check(nil); e != api.ErrEmpty {
		t.Errorf("Check of none: %d", e)
	}
}

// P27.1: an invalid edge is ErrOrder, even if its target is the source of the next one; more than 8 edges come first.
func TestInvalidEdges(t *testing.T) {
	ring := parsed(t, "po-ww rfe po-rr fre")
	invalid := []cycle.Edge{
		{}, {cycle.Po, 0, 0}, {cycle.Po, 1, 0}, {cycle.Po, 3, 3}, {cycle.Fence, -1, 1}, {0, 1, 1}, {9, 1, 2}, {-1, 2, 2}, {math.MaxInt, 1, 1}, {cycle.Po, math.MinInt, 2},
		{cycle.Rfe, 1, 2}, {cycle.Rfe, 1, 1}, {cycle.Rfe, 2, 2}, {cycle.Rfe, 0, 0}, {cycle.Fre, 2, 1}, {cycle.Fre, 1, 1}, {cycle.Fre, 2, 2}, {cycle.Coe, 1, 1}, {cycle.Coe, 1, 2}, {cycle.Coe, 2, 1},
		{cycle.Place, 2, 1}, {cycle.Place, 2, 2}, {cycle.Value, 1, 1}, {cycle.Value, 2, 1}, {cycle.Value, 2, 2}, {cycle.Path, 1, 1}, {cycle.Path, 2, 1}, {cycle.Path, 2, 2},
	}
	for _, e := range invalid {
		for at := range ring {
			l := slices.Clone(ring)
			l[at] = e
			wantError(t, l, api.ErrOrder)
			wantError(t, slices.Insert(slices.Clone(ring), at, e), api.ErrOrder)
			wantError(t, append(l, make([]cycle.Edge, 5)...), api.ErrMany)
		}
		wantError(t, []cycle.Edge{e}, api.ErrOrder)
		wantError(t, slices.Repeat([]cycle.Edge{e}, 6), api.ErrOrder)
	}
}

// wantError: whether Check and Make return this error, and Make no test.
func wantError(t *testing.T, l []cycle.Edge, want api.Errno) {
	t.Helper()
	if e := cycle.Check(l); e != want {
		t.Errorf("Check(%v): %d, want %d", l, e, want)
	}
	if x, e := cycle.Make(l); e != want || x.Locs != nil || x.Threads != nil || x.Asks != nil {
		t.Errorf("Make(%v): %+v, %d, want %d", l, x, e, want)
	}
}

// P27.1: the tests of some cycles, as they are printed.
func TestMake(t *testing.T) {
	for s, want := range map[string]string{
		// Message passing: a first edge that is inner goes to the end if the last one is inner too, and so on.
		"po-ww rfe po-rr fre": "init a=0 b=0\nthread\nstore a 1\nstore b 1\nthread\nload r0 b\nload r1 a\nask 1:r0=1 1:r1=0\n",
		"fre po-ww rfe po-rr": "init a=0 b=0\nthread\nstore a 1\nstore b 1\nthread\nload r0 b\nload r1 a\nask 1:r0=1 1:r1=0\n",
		"po-rr fre po-ww rfe": "init a=0 b=0\nthread\nload r0 a\nload r1 b\nthread\nstore b 1\nstore a 1\nask 0:r0=1 0:r1=0\n",
		"rfe po-rr fre po-ww": "init a=0 b=0\nthread\nload r0 a\nload r1 b\nthread\nstore b 1\nstore a 1\nask 0:r0=1 0:r1=0\n",
		// Store buffering.
		"po-wr fre po-wr fre": "init a=0 b=0\nthread\nstore a 1\nload r0 b\nthread\nstore b 1\nload r0 a\nask 0:r0=0 1:r0=0\n",
		// Four threads, of which two have one event only.
		"rfe fence-rr fre rfe fence-rr fre": "init a=0 b=0\nthread\nstore a 1\nthread\nload r0 a\nfence rw rw\nload r1 b\nthread\nstore b 1\nthread\nload r0 b\nfence rw rw\nload r1 a\nask 1:r0=1 1:r1=0 3:r0=1 3:r1=0\n",
		"po-wr fre coe po-wr fre coe":       "init a=0 b=0\nthread\nstore a 2\nload r0 b\nthread\nstore b 1\nthread\nstore b 2\nload r0 a\nthread\nstore a 1\nask 0:r0=0 2:r0=0 a=2 b=2\n",
		// All outer edges in a row: location a ends in the thread in which it begins.
		"po-rr po-rr fre rfe fre rfe": "init a=0 b=0\nthread\nload r0 a\nload r1 b\nload r2 a\nthread\nstore a 1\nthread\nload r0 a\nthread\nstore a 2\nask 0:r0=2 0:r1=0 0:r2=0 2:r0=1 a=2\n",
		// A load reads the last store before it, and that may be the second one.
		"fence-ww rfe fre po-ww coe": "init a=0 b=0\nthread\nstore a 2\nfence rw rw\nstore b 1\nthread\nload r0 b\nthread\nstore b 2\nstore a 1\nask 1:r0=1 a=2 b=2\n",
		"po-rw coe rfe po-rw rfe":    "init a=0 b=0\nthread\nload r0 a\nstore b 1\nthread\nstore b 2\nthread\nload r0 b\nstore a 1\nask 0:r0=1 2:r0=2 b=2\n",
		// The other inner edges; one needs the last load of its own thread.
		"value-rw rfe path-rw rfe":                  "init a=0 b=0\nthread\nload r0 a\nxor r7 r0 r0\nor r7 r7 1\nstore b r7\nthread\nload r0 b\nbeq r0 r0 0\nstore a 1\nask 0:r0=1 1:r0=1\n",
		"fence-wr fence-rw coe po-wr value-rw coe":  "init a=0 b=0 c=0 d=0\nthread\nstore a 2\nfence rw rw\nload r0 b\nfence rw rw\nstore c 1\nthread\nstore c 2\nload r0 d\nxor r7 r0 r0\nor r7 r7 1\nstore a r7\nask 0:r0=0 1:r0=0 a=2 c=2\n",
		"po-wr po-rr path-rw coe po-wr fre":         "init a=0 b=0 c=0 d=0\nthread\nstore a 1\nload r0 b\nload r1 c\nbeq r1 r1 0\nstore d 1\nthread\nstore d 2\nload r0 a\nask 0:r0=0 0:r1=0 1:r0=0 d=2\n",
		"po-rr value-rw rfe po-rr place-rr fre rfe": "init a=0 b=0 c=0 d=0\nthread\nload r0 a\nload r1 b\nxor r7 r1 r1\nor r7 r7 1\nstore c r7\nthread\nload r0 c\nload r1 d\nload r2 a dep r1\nthread\nstore a 1\nask 0:r0=1 0:r1=0 1:r0=1 1:r1=0 1:r2=0\n",
		// As many loads, locations and instructions of a thread as there may be.
		"po-rr po-rr po-rr po-rr po-rr po-rr fre rfe":                "init a=0 b=0 c=0 d=0 e=0 f=0\nthread\nload r0 a\nload r1 b\nload r2 c\nload r3 d\nload r4 e\nload r5 f\nload r6 a\nthread\nstore a 1\nask 0:r0=1 0:r1=0 0:r2=0 0:r3=0 0:r4=0 0:r5=0 0:r6=0\n",
		"place-rr place-rr place-rr place-rr place-rw po-wr fre rfe": "init a=0 b=0 c=0 d=0 e=0 f=0\nthread\nload r0 a\nload r1 b dep r0\nload r2 c dep r1\nload r3 d dep r2\nload r4 e dep r3\nstore f 1 dep r4\nload r5 a\nthread\nstore a 1\nask 0:r0=1 0:r1=0 0:r2=0 0:r3=0 0:r4=0 0:r5=0\n",
		"fence-rr fence-rr fence-rr po-rr fre rfe":                   "init a=0 b=0 c=0 d=0\nthread\nload r0 a\nfence rw rw\nload r1 b\nfence rw rw\nload r2 c\nfence rw rw\nload r3 d\nload r4 a\nthread\nstore a 1\nask 0:r0=1 0:r1=0 0:r2=0 0:r3=0 0:r4=0\n",
	} {
		x, e := cycle.Make(parsed(t, s))
		if got := canon.Print(&x); e != api.OK || got != want {
			t.Errorf("Make(%q): %q, %d", s, got, e)
		}
	}
}

// P27.1: of a cycle with three stores at a location, or nine instructions in a thread, no test is made.
func TestMakeErrors(t *testing.T) {
	for _, s := range []string{
		"po-ww coe coe po-ww coe",
		"po-ww coe po-ww coe coe",
		"po-ww coe coe po-wr fre",
		"po-ww coe rfe fre po-ww coe",
		"coe coe coe coe po-ww po-ww",
		"fence-rr fence-rr fence-rr fence-rr fre rfe",
		"fence-rr fence-rr fence-rr value-rw rfe fre rfe",
		"fence-rr fence-rr fence-rr path-rw rfe fre rfe",
		"fence-rr fence-rr po-rr value-rw rfe fre rfe",
	} {
		l := parsed(t, s)
		if e := cycle.Check(l); e != api.OK {
			t.Errorf("Check(%q): %d", s, e)
		}
		if x, e := cycle.Make(l); e != api.ErrMany || x.Locs != nil || x.Threads != nil || x.Asks != nil {
			t.Errorf("Make(%q): %q, %d", s, canon.Print(&x), e)
		}
	}
	for s, want := range map[string]api.Errno{
		"rfe fre":                               api.ErrEmpty,
		"po-ww rfe po-rr coe":                   api.ErrOrder,
		"po-ww coe coe coe po-ww coe coe":       api.ErrMany,
		strings.Repeat("po-ww ", 7) + "coe coe": api.ErrMany,
	} {
		wantError(t, parsed(t, s), want)
	}
	wantError(t, nil, api.ErrEmpty)
}

// P27.1: Make and Check agree with the model: for all cycles of up to 5 edges, and many longer ones.
func TestModel(t *testing.T) {
	tests := 0
	for n := 1; n <= 5; n++ {
		eachCycle(allWords, n, func(words []string) { tests += compare(t, words) })
	}
	r := rand.New(rand.NewSource(2))
	for range 40000 {
		tests += compare(t, random(r, allWords, 5+r.Intn(5)))
	}
	if tests < 10000 {
		t.Errorf("only %d tests", tests)
	}
}

// compare holds Check, Text and Make against the model; it counts the tests.
func compare(t *testing.T, words []string) int {
	t.Helper()
	l, s := edgesOf(words), strings.Join(words, " ")
	want := fault(words)
	if e := cycle.Check(l); e != want {
		t.Fatalf("Check(%q): %d, want %d", s, e, want)
	}
	if got := cycle.Text(l); got != s {
		t.Fatalf("Text: %q, want %q", got, s)
	}
	text := ""
	if want == api.OK {
		if text = modelled(words); text == "" {
			want = api.ErrMany
		}
	}
	x, e := cycle.Make(l)
	if got := canon.Print(&x); e != want || got != text {
		t.Fatalf("Make(%q): %q, %d, want %q, %d", s, got, e, text, want)
	}
	if e != api.OK {
		return 0
	}
	if len(x.Threads) > 4 || len(x.Locs) > 6 || x.Events() != len(words) || x.Check() != api.OK {
		t.Fatalf("Make(%q): %q", s, text)
	}
	return 1
}

// P27.1: Check, with edges of which some are invalid.
func TestInvalidModel(t *testing.T) {
	r := rand.New(rand.NewSource(3))
	for range 20000 {
		words := random(r, allWords, 1+r.Intn(9))
		l := edgesOf(words)
		for range r.Intn(2) {
			at := r.Intn(len(l))
			l[at] = cycle.Edge{Kind: r.Intn(10), From: r.Intn(4), To: r.Intn(4)}
			words[at] = ""
			for word := range strings.FieldsSeq(allWords) {
				if edgeOf(word) == l[at] {
					words[at] = word
				}
			}
		}
		if got, want := cycle.Check(l), fault(words); got != want {
			t.Fatalf("Check(%v): %d, want %d", l, got, want)
		}
	}
}

// P27.2: the condition of a cycle's test never holds under sequential consistency; nor is it without an atom.
func TestStrict(t *testing.T) {
	check := func(words []string) {
		x, e := cycle.Make(edgesOf(words))
		if e != api.OK {
			return
		}
		if a := cond.Of(&x, seqc.States(&x)); a.Kind != cond.Never || a.N == 0 || len(x.Asks) == 0 {
			t.Fatalf("%q: %+v", words, a)
		}
	}
	for n := 4; n <= 5; n++ {
		eachCycle(allWords, n, check)
	}
	r := rand.New(rand.NewSource(4))
	for range 3000 {
		check(random(r, allWords, 6+r.Intn(3)))
	}
}

// P27.3: with fences only, it never holds under RVWMO and with store buffers either.
func TestFences(t *testing.T) {
	tests := 0
	check := func(words []string) {
		x, e := cycle.Make(edgesOf(words))
		if e != api.OK {
			return
		}
		tests++
		buffered, ok := tso.States(&x)
		if a := cond.Of(&x, buffered); !ok || a.Kind != cond.Never || a.N == 0 {
			t.Fatalf("%q with store buffers: %+v, %v", words, a, ok)
		}
		if a := cond.Of(&x, rvwmo.States(&x)); a.Kind != cond.Never || a.N == 0 {
			t.Fatalf("%q under RVWMO: %+v", words, a)
		}
	}
	for n := 4; n <= 6; n++ {
		eachCycle(outerWords+" "+fenceWords, n, check)
	}
	r := rand.New(rand.NewSource(5))
	for range 800 {
		check(random(r, outerWords+" "+fenceWords, 7+r.Intn(2)))
	}
	if tests < 500 {
		t.Errorf("only %d tests", tests)
	}
}

// P27.1: which conditions of well-known cycles the weaker models permit.
func TestKnown(t *testing.T) {
	for s, want := range map[string][2]int{
		"po-ww rfe po-rr fre":                      {cond.Never, cond.Some},
		"po-wr fre po-wr fre":                      {cond.Some, cond.Some},
		"fence-wr fre po-wr fre":                   {cond.Some, cond.Some},
		"fence-wr fre fence-wr fre":                {cond.Never, cond.Never},
		"po-rw rfe po-rw rfe":                      {cond.Never, cond.Some},
		"value-rw rfe path-rw rfe":                 {cond.Never, cond.Never},
		"fence-ww rfe place-rr fre":                {cond.Never, cond.Never},
		"fence-ww rfe po-rr fre":                   {cond.Never, cond.Some},
		"po-ww coe po-wr fre":                      {cond.Some, cond.Some},
		"po-ww coe po-ww coe":                      {cond.Never, cond.Some},
		"rfe po-rr fre rfe po-rr fre":              {cond.Never, cond.Some},
		"rfe place-rr fre rfe place-rr fre":        {cond.Never, cond.Never},
		"rfe value-rw rfe place-rr fre":            {cond.Never, cond.Never},
		"rfe po-rw rfe place-rr fre":               {cond.Never, cond.Some},
		"fence-ww coe fence-wr fre":                {cond.Never, cond.Never},
		"place-rw rfe place-rw rfe":                {cond.Never, cond.Never},
		"fence-ww rfe path-rw rfe place-rr fre":    {cond.Never, cond.Never},
		"fence-ww rfe path-rw rfe po-rr fre":       {cond.Never, cond.Some},
		"po-rr place-rw rfe place-rr place-rw rfe": {cond.Never, cond.Some},
	} {
		x, e := cycle.Make(parsed(t, s))
		if e != api.OK {
			t.Errorf("Make(%q): %d", s, e)
			continue
		}
		buffered, _ := tso.States(&x)
		got := [2]int{cond.Of(&x, buffered).Kind, cond.Of(&x, rvwmo.States(&x)).Kind}
		if got != want {
			t.Errorf("%q: %v, want %v", s, got, want)
		}
	}
}

// P27.1: arguments stay as they are, with what is behind them, and no two results share memory.
func TestMemory(t *testing.T) {
	words := strings.Fields("fre po-ww rfe po-rr")
	spare := append(edgesOf(words), cycle.Edge{Kind: 7, From: 8, To: 9})
	before := slices.Clone(spare)
	l := spare[:len(words)]
	want := modelled(words)
	for range 3 {
		cycle.Text(l)
		cycle.Check(l)
		x, e := cycle.Make(l)
		if got := canon.Print(&x); e != api.OK || got != want {
			t.Errorf("Make: %q, %d", got, e)
		}
		if !slices.Equal(spare, before) {
			t.Fatalf("an argument changed: %v", spare)
		}
		clear(x.Locs)
		clear(x.Asks)
		for i, thread := range x.Threads {
			x.Threads[i] = append(thread, litmus.Instr{Op: litmus.Fence})
			clear(x.Threads[i])
		}
		a, _ := cycle.Parse(cycle.Text(l))
		if !slices.Equal(a, l) {
			t.Errorf("Parse: %v", a)
		}
		clear(a)
	}
}
