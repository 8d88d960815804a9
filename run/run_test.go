package run_test

import (
	"math"
	"math/rand"
	"slices"
	"strings"
	"testing"

	"ordeal/api"
	"ordeal/canon"
	"ordeal/ckpt"
	"ordeal/disk"
	"ordeal/run"
	"ordeal/sha"
	"ordeal/table"
	"ordeal/verdict"
	"ordeal/wal"
)

// one is a test, in several texts; passing and buffering are others.
const (
	one       = "thread\nstore x 1"
	oneAgain  = " thread\n store  x 0x1 # again\n"
	pair      = "thread\nlr r0 x\nsc r1 x 1\nask 0:r1=0"
	passing   = "thread\nstore x 1\nstore y 1\nthread\nload r0 y\nload r1 x\nask 1:r0=1 1:r1=0"
	buffering = "thread\nstore x 1\nload r0 y\nthread\nstore y 1\nload r0 x\nask 0:r0=0 1:r0=0"
)

// judged is the key and the encoded verdict of each text that was asked for, since the tests play the same few texts many times.
var judged = map[string]table.Entry{}

// entry is what the table has of a text.
func entry(s string) table.Entry {
	x, ok := judged[s]
	if !ok {
		k, v := verdict.Judge(s)
		x = table.Entry{Key: k, Text: v.Write()}
		judged[s] = x
	}
	return x
}

// campaign is the table of a corpus.
func campaign(corpus []string) *table.Table {
	var t table.Table
	for _, s := range corpus {
		x := entry(s)
		t.Put(x.Key, x.Text)
	}
	return &t
}

// record is what the log has of a text.
func record(s string) string {
	x := entry(s)
	return string(x.Key[:]) + x.Text
}

// equal tells whether two tables have the same entries.
func equal(a, b *table.Table) bool {
	return slices.Equal(a.All(), b.All())
}

// opened is a campaign, opened without an error.
func opened(t *testing.T, d *disk.Disk, corpus []string, o run.Options) *run.Run {
	t.Helper()
	r, e := run.Open(d, corpus, o)
	if e != api.OK || r == nil {
		t.Fatalf("Open: %d", e)
	}
	return r
}

// stands checks what a campaign tells about itself.
func stands(t *testing.T, name string, r *run.Run, done bool, at, kept int, want *table.Table) {
	t.Helper()
	if r.Done() != done || r.At() != at || r.Kept() != kept || !equal(r.Table(), want) {
		t.Fatalf("%s: Done %v, At %d, Kept %d, %d verdicts, want %v, %d, %d, %d", name, r.Done(), r.At(), r.Kept(), r.Table().Len(), done, at, kept, want.Len())
	}
}

// files are the names and the bytes of a disk, and what of them is safe.
func files(t *testing.T, d *disk.Disk) []string {
	t.Helper()
	names, e := d.Names()
	if e != api.OK {
		t.Fatalf("Names: %d", e)
	}
	var all []string
	for _, name := range names {
		s, _ := d.Read(name)
		all = append(all, name, s)
	}
	safe, texts := d.Safe()
	all = append(all, "safe")
	for i, name := range safe {
		all = append(all, name, texts[i])
	}
	return all
}

// planted is a disk with a table (unless that is nil) and a log of these records.
func planted(t *testing.T, x *table.Table, records ...string) *disk.Disk {
	t.Helper()
	d := disk.New(1 << 20)
	if x != nil && ckpt.Save(d, x) != api.OK {
		t.Fatal("Save")
	}
	l, _, _ := wal.Open(d, 100)
	for _, s := range records {
		if e := l.Append(s); e != api.OK {
			t.Fatalf("Append: %d", e)
		}
	}
	return d
}

// P24.2: a record is the key and the encoded verdict.
func TestRecord(t *testing.T) {
	for _, s := range []string{"", "fly", one, pair, passing} {
		k, v := verdict.Judge(s)
		got := run.Record(k, v)
		if got != record(s) || len(got) != 32+len(v.Write()) {
			t.Errorf("%q: %x", s, got)
		}
	}
	if got := run.Record(api.Hash{31: 7}, verdict.Verdict{Why: api.ErrText, Line: 1}); got != strings.Repeat("\x00", 31)+"\x07\x0a\x01" {
		t.Errorf("%x", got)
	}
}

// P24.2: the contents of a disk are those of the table, and then the records of the log, in order.
func TestRecover(t *testing.T) {
	k, _ := verdict.Judge("fly")
	other := verdict.Verdict{Why: api.ErrName, Line: 2}
	another := verdict.Verdict{Why: api.ErrSkip, Line: 3}
	var odd table.Table
	odd.Put(k, other.Write())
	odd.Put(api.Hash{1}, "no verdict")
	both := odd.Clone()
	both.Put(entry(one).Key, entry(one).Text)
	var first table.Table
	first.Put(k, other.Write())
	for _, c := range []struct {
		name    string
		table   *table.Table
		records []string
		want    *table.Table
	}{
		{"nothing", nil, nil, campaign(nil)},
		{"an empty table", campaign(nil), nil, campaign(nil)},
		{"a table", campaign([]string{one, "fly"}), nil, campaign([]string{one, "fly"})},
		{"a log", nil, []string{record(one), record("fly"), record(one)}, campaign([]string{"fly", one})},
		{"both", campaign([]string{one, "fly"}), []string{record("fly"), record(""), record(pair)}, campaign([]string{"fly", one, "", pair})},
		{"the first record of a key", nil, []string{run.Record(k, other), run.Record(k, another), record("fly")}, &first},
		{"the table before the log", &odd, []string{record("fly"), run.Record(k, another), record(one)}, both},
	} {
		d := planted(t, c.table, c.records...)
		x, l, e := run.Recover(d, 1000)
		if e != api.OK || !equal(x, c.want) || l.Next() != uint64(len(c.records))+1 {
			t.Errorf("%s: %d verdicts, %d", c.name, x.Len(), e)
		}
		r := opened(t, d, nil, run.Options{})
		stands(t, c.name, r, false, 0, c.want.Len(), c.want)
	}
}

// P24.2: the log of Recover continues that of the disk; a file of it has at most limit bytes.
func TestRecoverLog(t *testing.T) {
	for limit, want := range map[int]int{math.MinInt: 3, -1: 3, 0: 3, 1: 3, 37: 3, 38: 2, 57: 1, 1000: 1, math.MaxInt: 1} {
		d := planted(t, nil, record("fly"))
		_, l, e := run.Recover(d, limit)
		for _, s := range []string{"a", "b", "c"} {
			if e == api.OK {
				e = l.Append(s)
			}
		}
		names, _ := d.Names()
		_, records, _ := wal.Open(d, limit)
		if e != api.OK || len(names) != 1+want || !slices.Equal(records, []string{record("fly"), "a", "b", "c"}) {
			t.Errorf("limit %d: %q, %q, %d", limit, names, records, e)
		}
	}
}

// fault is a disk, and the error for it.
type fault struct {
	d    *disk.Disk
	want api.Errno
}

// broken are disks from which nothing can be recovered.
func broken(t *testing.T) map[string]fault {
	key := strings.Repeat("k", 32)
	dead := planted(t, campaign(nil), "short")
	dead.Crash(0)
	dead.SyncNames()
	bent := planted(t, nil, "short")
	bent.Create(ckpt.Name)
	bent.Append(ckpt.Name, strings.Repeat("+", 40))
	logged := func(want api.Errno, records ...string) fault {
		return fault{planted(t, campaign([]string{"fly"}), records...), want}
	}
	return map[string]fault{
		"dead":                            {dead, api.ErrDead},
		"a bent table":                    {bent, api.ErrSum},
		"an empty record":                 logged(api.ErrEnd, record(one), ""),
		"31 bytes":                        logged(api.ErrEnd, key[:31]),
		"32 bytes":                        logged(api.ErrEnd, key),
		"half a verdict":                  logged(api.ErrEnd, key+"\x0a"),
		"bytes behind a verdict":          logged(api.ErrForm, key+"\x0a\x01\x00"),
		"Why above 17":                    logged(api.ErrForm, key+"\x12\x01"),
		"100001 states":                   logged(api.ErrMany, key+"\x00\x01\x00\x00\xfa\x01\x86\xa1"),
		"the first of two":                logged(api.ErrForm, key+"\x12\x01", "short"),
		"the first of two others":         logged(api.ErrEnd, "short", key+"\x12\x01"),
		"a key that is there":             logged(api.ErrForm, record("fly")+"+"),
		"a key that is there twice":       logged(api.ErrEnd, record(one), record(one)[:33]),
		"a good record, then a short one": logged(api.ErrEnd, record(one), record(pair), key[:5]),
	}
}

// P24.2 and P24.3: Recover and Open return the first error, and nothing beside it; they change nothing.
func TestRecoverErrors(t *testing.T) {
	for name, c := range broken(t) {
		before := c.d.Calls()
		x, l, e := run.Recover(c.d, 100)
		if e != c.want || x != nil || l != nil {
			t.Errorf("%s: Recover: %d, want %d", name, e, c.want)
		}
		r, e := run.Open(c.d, []string{one}, run.Options{Limit: 100})
		if e != c.want || r != nil {
			t.Errorf("%s: Open: %d, want %d", name, e, c.want)
		}
		if c.d.Calls() != before {
			t.Errorf("%s: something changes", name)
		}
	}
}

// P24.3: Recover and Open change nothing, and return the same again.
func TestRepetition(t *testing.T) {
	corpus := []string{one, "fly", pair, "", "fly again", buffering}
	for seed := range int64(300) {
		r := rand.New(rand.NewSource(seed))
		d := disk.New(1 << 20)
		o := run.Options{SyncEvery: 1 + r.Intn(4), SaveEvery: 1 + r.Intn(6), Limit: r.Intn(200)}
		c := opened(t, d, corpus, o)
		if r.Intn(2) == 0 {
			d.Crash(r.Intn(40))
		}
		for range r.Intn(9) {
			if _, e := c.Step(); e != api.OK {
				break
			}
		}
		if d.Dead() || r.Intn(2) == 0 {
			d.Restart([]int{r.Intn(10), r.Intn(100), r.Intn(100)})
		}
		before, calls := files(t, d), d.Calls()
		x, l, e := run.Recover(d, o.Limit)
		for range 3 {
			y, m, f := run.Recover(d, o.Limit)
			if e != api.OK || f != api.OK || !equal(x, y) || l.Next() != m.Next() {
				t.Fatalf("seed %d: %d, %d", seed, e, f)
			}
			stands(t, "opened", opened(t, d, corpus, o), false, 0, x.Len(), x)
		}
		if d.Calls() != calls || !slices.Equal(files(t, d), before) {
			t.Fatalf("seed %d: something changes", seed)
		}
	}
}

// randomCorpus is texts of all kinds, some of them several times.
func randomCorpus(r *rand.Rand) []string {
	all := []string{one, oneAgain, pair, "fly", "fly ", "", "thread", "thread\nli r0 5\nask 0:r0=5", "thread\nload r8 x", "\xff\x00", strings.Repeat("#", 2001), strings.Repeat("\n", 2000), "thread\namo r0 x 1\nthread\namo r0 x 1", passing, buffering}
	var corpus []string
	for range r.Intn(12) {
		corpus = append(corpus, all[r.Intn(len(all))])
	}
	return corpus
}

// P24.1: an uninterrupted run has the campaign's table, and so has the file; the log is gone.
func TestCampaign(t *testing.T) {
	for seed := range int64(500) {
		r := rand.New(rand.NewSource(seed))
		corpus := randomCorpus(r)
		want := campaign(corpus)
		d := disk.New(1 << 20)
		c := opened(t, d, corpus, run.Options{SyncEvery: r.Intn(5) - 1, SaveEvery: r.Intn(8) - 1, Limit: r.Intn(200) - 5})
		stands(t, "opened", c, false, 0, 0, campaign(nil))
		if seed%2 == 0 {
			for at := range len(corpus) {
				if done, e := c.Step(); done || e != api.OK {
					t.Fatalf("seed %d: Step: %v, %d", seed, done, e)
				}
				stands(t, "a step", c, false, at+1, c.Kept(), campaign(corpus[:at+1]))
			}
		}
		if e := c.All(); e != api.OK {
			t.Fatalf("seed %d: All: %d", seed, e)
		}
		calls := d.Calls()
		for range 2 {
			stands(t, "done", c, true, len(corpus), want.Len(), want)
			store := []string{ckpt.Name, want.Bytes()}
			if got := files(t, d); !slices.Equal(got, slices.Concat(store, []string{"safe"}, store)) {
				t.Fatalf("seed %d: %q", seed, got)
			}
			if done, e := c.Step(); !done || e != api.OK || c.All() != api.OK || d.Calls() != calls {
				t.Fatalf("seed %d: after the end: %v, %d", seed, done, e)
			}
		}
	}
}

// P24.1: a campaign without texts, or of which everything is there already, is done after one save.
func TestNothingToDo(t *testing.T) {
	d := disk.New(1 << 20)
	c := opened(t, d, nil, run.Options{})
	if done, e := c.Step(); !done || e != api.OK || !c.Done() {
		t.Errorf("no texts: %v, %d", done, e)
	}
	if x, ok, e := ckpt.Load(d); !ok || e != api.OK || x.Len() != 0 {
		t.Errorf("no texts: %v, %d", ok, e)
	}
	corpus := []string{one, "fly", oneAgain}
	opened(t, d, corpus, run.Options{}).All()
	c = opened(t, d, corpus, run.Options{})
	for at := range corpus {
		calls := d.Calls()
		stands(t, "there already", c, false, at, 2, campaign(corpus))
		if done, e := c.Step(); done || e != api.OK || d.Calls() != calls {
			t.Errorf("there already: %v, %d, %d calls", done, e, d.Calls()-calls)
		}
	}
	calls := d.Calls()
	if done, e := c.Step(); !done || e != api.OK || d.Calls() != calls+5 {
		t.Errorf("there already: %v, %d, %d calls", done, e, d.Calls()-calls)
	}
	stands(t, "there already", c, true, 3, 2, campaign(corpus))
}

// mirror does with a disk of its own what a campaign is to do.
type mirror struct {
	d     *disk.Disk
	l     *wal.Log
	x     *table.Table
	limit int
	kept  int
}

func (m *mirror) open() {
	m.l, _, _ = wal.Open(m.d, m.limit)
	m.kept = m.x.Len()
}

// do does the letters of a step: a append, s sync, S save; anything else is nothing.
func (m *mirror) do(step, text string) {
	for _, letter := range step {
		switch letter {
		case 'a':
			m.l.Append(record(text))
			m.x.Put(entry(text).Key, entry(text).Text)
		case 's':
			m.l.Sync()
			m.kept = m.x.Len()
		case 'S':
			m.l.Sync()
			m.kept = m.x.Len()
			ckpt.Save(m.d, m.x)
			m.l.Retire()
		}
	}
}

// P24.1 and P24.2: what each step does: it appends, syncs, saves, at the right time; | opens the campaign anew.
func TestSteps(t *testing.T) {
	corpus := []string{"1", "2", "2", "3", "4", "1", "5", "6"}
	for _, c := range []struct {
		sync, save int
		steps      string
	}{
		{2, 4, "a as - a aS - a as S"},
		{1, 1, "aS aS - aS aS - aS aS S"},
		{0, 0, "aS aS - aS aS - aS aS S"},
		{-5, math.MinInt, "aS aS - aS aS - aS aS S"},
		{1, 100, "as as - as as - as as S"},
		{0, 100, "as as - as as - as as S"},
		{100, 0, "aS aS - aS aS - aS aS S"},
		{100, 100, "a a - a a - a a S"},
		{math.MaxInt, math.MaxInt, "a a - a a - a a S"},
		{3, 2, "a aS - a aS - a aS S"},
		{2, 2, "a aS - a aS - a aS S"},
		{2, 3, "a as - aS a - as aS S"},
		{4, 6, "a a - a as - a aS S"},
		{3, 4, "a a - as aS - a a S"},
		{5, 100, "a a - a a - as a S"},
		{2, 4, "a | - a - as a - aS a S | - - - - - - - - S"},
		{2, 3, "a as | - - - a as - aS a S"},
		{0, 100, "as | - as - as as - as as S"},
		{1, 100, "as | - as - as as - as as S"},
		{3, 5, "a a - | - - - a a - as a S"},
		{2, 2, "a | - a | - - - a aS - | - - - - - - a aS S"},
	} {
		for _, limit := range []int{0, 60, 120, 1000} {
			m := mirror{d: disk.New(1 << 20), x: campaign(nil), limit: limit}
			m.open()
			d := disk.New(1 << 20)
			o := run.Options{SyncEvery: c.sync, SaveEvery: c.save, Limit: limit}
			r, at := opened(t, d, corpus, o), 0
			for _, step := range strings.Fields(c.steps) {
				name := c.steps + ": " + step
				switch {
				case step == "|":
					m.open()
					r, at = opened(t, d, corpus, o), 0
				case at < len(corpus):
					m.do(step, corpus[at])
					at++
					if done, e := r.Step(); done || e != api.OK {
						t.Fatalf("%s: %v, %d", name, done, e)
					}
				default:
					m.do(step, "")
					if done, e := r.Step(); !done || e != api.OK {
						t.Fatalf("%s: %v, %d", name, done, e)
					}
				}
				stands(t, name, r, step == "S", at, m.kept, m.x)
				if !slices.Equal(files(t, d), files(t, m.d)) || d.Calls() != m.d.Calls() {
					t.Fatalf("%s: %q, want %q", name, files(t, d), files(t, m.d))
				}
			}
		}
	}
}

// P24.2: a step that cannot do everything returns the first error; what was done until then is described.
func TestStepErrors(t *testing.T) {
	two := campaign([]string{"1", "2"})
	texts := []string{"1", "2", "1"}
	for _, c := range []struct {
		name           string
		sync, save, at int // the failure is in the step after at ones, at a changing call of it
		call           int
		wantAt         int
		kept           int
		want           *table.Table
	}{
		{"the first file", 1, 9, 0, 0, 0, 0, campaign(nil)},
		{"the names of the first file", 1, 9, 0, 1, 0, 0, campaign(nil)},
		{"the first record", 1, 9, 0, 2, 0, 0, campaign(nil)},
		{"the first sync", 1, 9, 0, 3, 1, 0, campaign(texts[:1])},
		{"the second record", 2, 9, 1, 0, 1, 0, campaign(texts[:1])},
		{"the second sync", 2, 9, 1, 1, 2, 0, two},
		{"a sync before a save", 2, 2, 1, 1, 2, 0, two},
		{"the file of a save", 2, 2, 1, 2, 2, 2, two},
		{"the bytes of a save", 2, 2, 1, 3, 2, 2, two},
		{"the sync of a save", 2, 2, 1, 4, 2, 2, two},
		{"the renaming of a save", 2, 2, 1, 5, 2, 2, two},
		{"the names of a save", 2, 2, 1, 6, 2, 2, two},
		{"the removal of the log", 2, 2, 1, 7, 2, 2, two},
		{"the names of the log", 2, 2, 1, 8, 2, 2, two},
		{"the last sync", 9, 9, 3, 0, 3, 0, two},
		{"the file of the last save", 9, 9, 3, 1, 3, 2, two},
		{"the names of the last save", 9, 9, 3, 5, 3, 2, two},
		{"the removal of the last log", 9, 9, 3, 6, 3, 2, two},
		{"the names of the last log", 9, 9, 3, 7, 3, 2, two},
	} {
		for _, want := range []api.Errno{api.ErrIO, api.ErrDead} {
			d := disk.New(1 << 20)
			r := opened(t, d, texts, run.Options{SyncEvery: c.sync, SaveEvery: c.save, Limit: 1000})
			for range c.at {
				r.Step()
			}
			calls := d.Calls()
			if want == api.ErrIO {
				d.Fail(c.call)
			} else {
				d.Crash(c.call)
			}
			done, e := r.Step()
			if done || e != want || d.Calls() != calls+c.call {
				t.Fatalf("%s: %v, %d after %d calls", c.name, done, e, d.Calls()-calls)
			}
			stands(t, c.name, r, false, c.wantAt, c.kept, c.want)
			k, v := verdict.Judge("1")
			if u, ok := r.Query(k); ok != (c.want.Len() > 0) || ok && !verdict.Same(u, v) {
				t.Errorf("%s: Query: %v, %v", c.name, u, ok)
			}
		}
	}
}

// P24.2: All returns the error of a step, and does nothing more.
func TestAllErrors(t *testing.T) {
	corpus := []string{"1", one, "2", "1", pair, "3"}
	for n := range 100 {
		o := run.Options{SyncEvery: 2, SaveEvery: 3, Limit: 60}
		steps, all := disk.New(1<<20), disk.New(1<<20)
		steps.Fail(n)
		all.Fail(n)
		r, s := opened(t, steps, corpus, o), opened(t, all, corpus, o)
		done, e := false, api.OK
		for !done && e == api.OK {
			done, e = r.Step()
		}
		f := s.All()
		stands(t, "All", s, r.Done(), r.At(), r.Kept(), r.Table())
		if e != f || !slices.Equal(files(t, steps), files(t, all)) || steps.Calls() != all.Calls() {
			t.Fatalf("failure %d: %d, %d", n, e, f)
		}
	}
}

// P24.1: Query has the verdicts that are there, in every form of a text, and no others.
func TestQuery(t *testing.T) {
	corpus := []string{one, "fly", pair, passing, buffering, ""}
	c := opened(t, disk.New(1<<20), corpus, run.Options{SyncEvery: 2, SaveEvery: 4})
	for at := range len(corpus) + 2 {
		for i, s := range corpus {
			k, v := verdict.Judge(s)
			got, ok := c.Query(k)
			if ok != (i < at) || ok && !verdict.Same(got, v) || !ok && !verdict.Same(got, verdict.Verdict{}) {
				t.Fatalf("%d texts: %q: %+v, %v", at, s, got, ok)
			}
		}
		for _, k := range []api.Hash{{}, {1}, sha.Of("fly"), canon.Of("never").Key} {
			if got, ok := c.Query(k); ok || !verdict.Same(got, verdict.Verdict{}) {
				t.Fatalf("%d texts: %x: %+v", at, k, got)
			}
		}
		c.Step()
	}
	if got, ok := c.Query(canon.Of(oneAgain).Key); !ok || got.N != 1 || !got.HasTso {
		t.Errorf("another text of a test: %+v, %v", got, ok)
	}
	// A string that is no verdict is none, whoever put it there.
	var x table.Table
	x.Put(api.Hash{1}, "no verdict")
	x.Put(api.Hash{2}, "")
	c = opened(t, planted(t, &x), nil, run.Options{})
	for _, k := range []api.Hash{{1}, {2}} {
		if got, ok := c.Query(k); ok || !verdict.Same(got, verdict.Verdict{}) {
			t.Errorf("%x: %+v", k, got)
		}
	}
}

// K3: a campaign does not keep the corpus, and its results are nobody else's.
func TestNothingIsShared(t *testing.T) {
	corpus := []string{"1", buffering, "2"}
	want := campaign(corpus)
	d := disk.New(1 << 20)
	given := slices.Clone(corpus)
	c := opened(t, d, given, run.Options{SyncEvery: 2, SaveEvery: 2})
	clear(given)
	x, l, _ := run.Recover(d, 0)
	x.Put(api.Hash{1}, "one")
	for range 4 {
		c.Table().Put(api.Hash{2}, "two")
		v, _ := c.Query(canon.Of(buffering).Key)
		clear(v.Tso)
		clear(v.Rv)
		c.Step()
	}
	stands(t, "shared", c, true, 3, 3, want)
	if s, e := d.Read(ckpt.Name); e != api.OK || s != want.Bytes() {
		t.Errorf("store: %d", e)
	}
	y := c.Table()
	y.Put(api.Hash{2}, "two")
	if c.Table().Len() != 3 || x.Len() != 1 || l.Next() != 1 || !slices.Equal(corpus, []string{"1", buffering, "2"}) {
		t.Error("something is shared")
	}
}

// P24.1: the example of the chapter.
func TestExample(t *testing.T) {
	corpus := []string{"fly", one, "fly", one}
	want := campaign(corpus)
	if want.Len() != 2 {
		t.Fatalf("%d verdicts", want.Len())
	}
	for n := range 30 {
		d := disk.New(1 << 20)
		d.Crash(n)
		opened(t, d, corpus, run.Options{}).All()
		d.Restart([]int{n, n})
		c := opened(t, d, corpus, run.Options{})
		if e := c.All(); e != api.OK || !equal(c.Table(), want) {
			t.Errorf("crash %d: %d", n, e)
		}
	}
}
