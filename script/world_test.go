package script_test

import (
	"fmt"
	"math"
	"math/rand"
	"slices"
	"strings"
	"testing"

	"ordeal/api"
	"ordeal/ckpt"
	"ordeal/disk"
	"ordeal/report"
	"ordeal/run"
	"ordeal/script"
	"ordeal/verdict"
	"ordeal/wal"
)

// usual are options under which each verdict is synced at once.
var usual = run.Options{SyncEvery: 1, SaveEvery: 9, Limit: 200}

// expect is a line of a script, and the result of its step.
type expect struct {
	line string
	want script.Result
}

// says is a result without an error; fails is one with an error alone.
func says(s string) script.Result     { return script.Result{Text: s} }
func fails(e api.Errno) script.Result { return script.Result{Err: e} }

// step is that of a line.
func step(t *testing.T, line string) script.Step {
	t.Helper()
	l, _, e := script.Parse(line)
	if e != api.OK || len(l) != 1 {
		t.Fatalf("%q is no step", line)
	}
	return l[0]
}

// does performs lines and checks their results.
func does(t *testing.T, w *script.World, l ...expect) {
	t.Helper()
	for i, x := range l {
		if got := w.Do(step(t, x.line)); got != x.want {
			t.Fatalf("%d, %s: %v, want %v", i, x.line, got, x.want)
		}
	}
}

// P26.2: a new world has an empty disk of the capacity, and no texts.
func TestNew(t *testing.T) {
	for room, want := range map[int]int{math.MinInt: 0, -1: 0, 0: 0, 7: 7, math.MaxInt: math.MaxInt} {
		w := script.New(room, usual)
		d := w.Disk()
		names, e := d.Names()
		safe, _ := d.Safe()
		if d.Free() != want || len(names) != 0 || e != api.OK || len(safe) != 0 || d.Calls() != 0 || d.Dead() || w.Disk() != d {
			t.Errorf("room %d: %d bytes, %q", room, d.Free(), names)
		}
		does(t, w, expect{"open", says("0 of 0")}, expect{"report", says("ordeal report 0\nend\n")}, expect{"files", says("")}, expect{"query fly", fails(api.ErrNone)})
	}
	w, other := script.New(100, usual), script.New(100, usual)
	does(t, w, expect{"text fly", says("")}, expect{"room 5", says("")}, expect{"open", says("0 of 1")})
	does(t, other, expect{"open", says("0 of 0")})
	if w.Disk() == other.Disk() || w.Disk().Free() != 5 || other.Disk().Free() != 100 {
		t.Error("two worlds share a disk")
	}
}

// P26.2: the example of the chapter.
func TestExample(t *testing.T) {
	w := script.New(1000, usual)
	does(t, w, expect{"text fly", says("")}, expect{"all", says("1 of 1 done")}, expect{"query fly", says("\x0a\x01")})
}

// P26.2: a script without faults, step by step.
func TestSteps(t *testing.T) {
	w := script.New(100000, run.Options{SyncEvery: 1, SaveEvery: 3, Limit: 1})
	does(t, w,
		expect{"text fly", says("")},
		expect{`text thread\nstore x 1`, says("")},
		expect{"text fly", says("")},
		expect{"go 0", says("0 of 3")},
		expect{"go -1", says("0 of 3")},
		expect{"query fly", fails(api.ErrNone)},
		expect{"files", says("")},
		expect{"go 1", says("1 of 3")},
		expect{"files", says("wal-0000000000000001\n")},
		expect{"query fly", says("\x0a\x01")},
		expect{`query thread\n store  x 0x1 # again`, fails(api.ErrNone)},
		expect{"report", says(reported([]string{fly}))},
		expect{"go 2", says("3 of 3")},
		expect{"files", says("wal-0000000000000001\nwal-0000000000000002\n")},
		expect{`query thread\n store  x 0x1 # again`, says("\x00\x01\x03\x01\x01\x02\x01\x01")},
		expect{"report", says(reported([]string{fly, one}))},
		expect{"open", says("0 of 3")},
		expect{"go 3", says("3 of 3")},
		expect{"go 1", says("3 of 3 done")},
		expect{"files", says("store\n")},
		expect{"go 1", says("3 of 3 done")},
		expect{"all", says("3 of 3 done")},
		expect{"go -1", says("3 of 3 done")},
		expect{"text ", says("")},
		expect{"query fly", says("\x0a\x01")},
		expect{"query ", fails(api.ErrNone)},
		expect{"go 1000000000", says("4 of 4 done")},
		expect{"query ", says(entry("").Text)},
		expect{"report", says(reported([]string{fly, one, ""}))},
		expect{"restart", says("")},
		expect{"go 2", says("2 of 4")},
		expect{"restart 5 5", says("")},
		expect{"report", says(reported([]string{fly, one, ""}))},
		expect{"all", says("4 of 4 done")},
		expect{"open", says("0 of 4")},
		expect{"all", says("4 of 4 done")},
		expect{"room 0", says("")},
		expect{"report", says(reported([]string{fly, one, ""}))},
	)
}

// P26.2: a step is done by the numbers of a Step, which may be any.
func TestAnyNumbers(t *testing.T) {
	w := script.New(100000, usual)
	w.Play([]script.Step{{Kind: script.Text, S: fly}, {Kind: script.Text, S: one}})
	for _, c := range []struct {
		n    int
		want string
	}{{math.MinInt, "0 of 2"}, {-2, "0 of 2"}, {1, "1 of 2"}, {math.MaxInt, "2 of 2 done"}} {
		if got := w.Do(script.Step{Kind: script.Go, N: c.n}); got != says(c.want) {
			t.Errorf("go %d: %v", c.n, got)
		}
	}
	for _, x := range []script.Step{{Kind: script.Crash, N: math.MinInt}, {Kind: script.Fail, N: -9}, {Kind: script.Room, N: math.MaxInt}, {Kind: script.Restart, Choice: []int{math.MinInt, math.MaxInt, -3}}} {
		if got := w.Do(x); got != says("") {
			t.Errorf("%v: %v", x, got)
		}
	}
	if got := w.Do(script.Step{Kind: script.All}); got != says("2 of 2 done") || w.Disk().Dead() {
		t.Errorf("%v", got)
	}
}

// P26.2: Crash, Fail, Room and Restart are the disk's methods.
func TestDiskSteps(t *testing.T) {
	w := script.New(1000, usual)
	d := w.Disk()
	does(t, w, expect{"crash 1", says("")})
	if d.Create("a") != api.OK || d.Append("a", "xyz") != api.ErrDead || !d.Dead() {
		t.Error("crash 1")
	}
	does(t, w, expect{"restart 1 2", says("")}, expect{"files", says("a\n")}, expect{"fail 1", says("")})
	if s, _ := d.Read("a"); s != "xy" || d.Create("b") != api.OK || d.Create("c") != api.ErrIO || d.Create("c") != api.OK {
		t.Errorf("restart 1 2, then fail 1: %q", s)
	}
	does(t, w, expect{"files", says("a\nb\nc\n")}, expect{"crash 0", says("")}, expect{"crash -1", says("")}, expect{"fail 0", says("")}, expect{"fail -1", says("")}, expect{"room 5", says("")})
	if d.Free() != 3 || d.Append("b", "1234") != api.ErrFull || d.Append("b", "123") != api.OK {
		t.Errorf("room 5: %d", d.Free())
	}
	does(t, w, expect{"room -1", says("")}, expect{"restart", says("")}, expect{"files", says("a\n")})
	if d.Free() != 0 {
		t.Errorf("room -1: %d", d.Free())
	}
}

// P26.2: what a dead disk leaves: steps of the disk, and ErrDead.
func TestDead(t *testing.T) {
	w := script.New(100000, usual)
	does(t, w, expect{"text fly", says("")}, expect{"all", says("1 of 1 done")}, expect{"text ", says("")}, expect{"crash 0", says("")}, expect{"all", fails(api.ErrDead)})
	for _, line := range []string{"go 1", "go 0", "go -1", "all", "open", "query fly", "query ", "report", "files"} {
		does(t, w, expect{line, fails(api.ErrDead)})
	}
	for _, line := range []string{"text 1", "crash 5", "fail 5", "room 5", "room 100000", "crash -1", "fail -1"} {
		does(t, w, expect{line, says("")}, expect{"open", fails(api.ErrDead)}, expect{"files", fails(api.ErrDead)})
	}
	if got := w.Do(script.Step{Kind: 12}); got != fails(api.ErrArg) {
		t.Errorf("no step: %v", got)
	}
	does(t, w, expect{"restart", says("")}, expect{"all", says("3 of 3 done")}, expect{"report", says(reported([]string{fly, "", "1"}))})
}

// P26.2: everything stops, but not in a step of the campaign.
func TestKilled(t *testing.T) {
	w := script.New(100000, usual)
	does(t, w, expect{"text fly", says("")}, expect{"all", says("1 of 1 done")}, expect{"crash 0", says("")})
	w.Disk().SyncNames()
	for _, line := range []string{"go 0", "all", "open", "query fly", "report", "files"} {
		does(t, w, expect{line, fails(api.ErrDead)})
	}
	does(t, w, expect{"restart", says("")}, expect{"query fly", says("\x0a\x01")}, expect{"go 0", says("0 of 1")})
}

// P26.2: any other kind is ErrArg, and nothing else happens.
func TestOtherKinds(t *testing.T) {
	w := script.New(100000, usual)
	does(t, w, expect{"text fly", says("")}, expect{"go 1", says("1 of 1")})
	for _, kind := range []int{math.MinInt, -1, 0, 12, 13, 99, math.MaxInt} {
		x := script.Step{Kind: kind, N: 1, S: one, Choice: []int{1}}
		if got := w.Do(x); got != fails(api.ErrArg) {
			t.Errorf("kind %d: %v", kind, got)
		}
	}
	does(t, w, expect{"go 0", says("1 of 1")}, expect{"report", says(reported([]string{fly}))}, expect{"files", says("wal-0000000000000001\n")})
}

// P26.2: when the campaign is opened anew, and when it goes on.
func TestOpened(t *testing.T) {
	for _, c := range []struct {
		line   string
		opened bool
	}{
		{"text fly", true}, {"restart", true}, {"restart 1 1", true}, {"open", true},
		{"crash 100", false}, {"fail 100", false}, {"room 100", false}, {"query fly", false}, {"query none", false}, {"report", false}, {"files", false}, {"go 0", false},
	} {
		w := script.New(100000, usual)
		does(t, w, expect{"text fly", says("")}, expect{"text 1", says("")}, expect{"go 1", says("1 of 2")})
		w.Do(step(t, c.line))
		want := "1 of "
		if c.opened {
			want = "0 of "
		}
		if got := w.Do(script.Step{Kind: script.Go}); got.Err != api.OK || !strings.HasPrefix(got.Text, want) {
			t.Errorf("after %s: %v", c.line, got)
		}
	}
}

// P26.2: a Step's error is returned; then the campaign is to be opened.
func TestErrors(t *testing.T) {
	for _, line := range []string{"go 3", "go 1000000000", "all"} {
		w := script.New(100000, usual)
		does(t, w,
			expect{"text fly", says("")}, expect{"text 1", says("")},
			expect{"fail 0", says("")}, expect{line, fails(api.ErrIO)}, expect{"go 0", says("0 of 2")}, expect{"go 1", says("1 of 2")},
			expect{"fail 1", says("")}, expect{line, fails(api.ErrIO)}, expect{"go 0", says("0 of 2")},
			expect{"room 60", says("")}, expect{line, fails(api.ErrFull)}, expect{"go 0", says("0 of 2")}, expect{"query fly", says("\x0a\x01")},
			expect{"room 100000", says("")}, expect{"crash 2", says("")}, expect{line, fails(api.ErrDead)}, expect{"go 0", fails(api.ErrDead)},
			expect{"restart", says("")}, expect{"go 0", says("0 of 2")}, expect{"query fly", says("\x0a\x01")},
			expect{line, says("2 of 2 done")}, expect{"query 1", says(entry("1").Text)},
		)
	}
}

// P26.2: what is in the files is no table or no log: the error of opening, for each step that opens; a campaign that is open does not look.
func TestBroken(t *testing.T) {
	store := func(text string) func(d *disk.Disk) {
		return func(d *disk.Disk) {
			d.Create(ckpt.Name)
			d.Append(ckpt.Name, text)
		}
	}
	record := func(text string) func(d *disk.Disk) {
		return func(d *disk.Disk) {
			l, _, _ := wal.Open(d, 1000)
			l.Append(text)
		}
	}
	for _, c := range []struct {
		name   string
		damage func(d *disk.Disk)
		want   api.Errno
	}{
		{ckpt.Name, store(""), api.ErrEnd},
		{ckpt.Name, store(strings.Repeat("+", 40)), api.ErrSum},
		{wal.Name(2), record("short"), api.ErrEnd},
		{wal.Name(2), record(strings.Repeat("k", 32) + "\x12\x01"), api.ErrForm},
	} {
		w := script.New(100000, usual)
		does(t, w, expect{"text fly", says("")}, expect{"go 1", says("1 of 1")})
		c.damage(w.Disk())
		does(t, w, expect{"go 0", says("1 of 1")}, expect{"query fly", says("\x0a\x01")}, expect{"report", says(reported([]string{fly}))})
		for _, line := range []string{"open", "go 0", "go 5", "all", "open", "query fly", "report"} {
			does(t, w, expect{line, fails(c.want)})
		}
		w.Disk().Remove(c.name)
		does(t, w, expect{"query fly", says("\x0a\x01")}, expect{"go 0", says("0 of 1")}, expect{"all", says("1 of 1 done")})
	}
}

// P26.2: a table of the disk with a string that is no verdict: report.Text's error.
func TestBrokenReport(t *testing.T) {
	x := campaign([]string{fly})
	x.Put(api.Hash{1}, "\x0a")
	w := script.New(100000, usual)
	if e := ckpt.Save(w.Disk(), x); e != api.OK {
		t.Fatalf("Save: %d", e)
	}
	does(t, w, expect{"query fly", says("\x0a\x01")}, expect{"report", fails(api.ErrEnd)}, expect{"go 0", says("0 of 0")})
}

// plain is what a script without faults must say, by counting: each verdict is synced at once, so that nothing is ever lost.
type plain struct {
	corpus []string
	at     int
	done   bool
	known  []string // the texts whose verdicts are there
}

// do is the result of a step.
func (p *plain) do(x script.Step) script.Result {
	n := 0
	switch x.Kind {
	case script.Text:
		p.corpus, p.at, p.done = append(p.corpus, x.S), 0, false
		return says("")
	case script.Restart:
		p.at, p.done = 0, false
		return says("")
	case script.Crash, script.Fail, script.Room:
		return says("")
	case script.Query:
		if s, ok := campaign(p.known).Get(entry(x.S).Key); ok {
			return says(s)
		}
		return fails(api.ErrNone)
	case script.Report:
		return says(reported(p.known))
	case script.Open:
		p.at, p.done = 0, false
	case script.Go:
		n = x.N
	case script.All:
		n = len(p.corpus) + 1
	}
	for ; n > 0 && !p.done; n-- {
		if p.done = p.at == len(p.corpus); !p.done {
			p.known = append(p.known, p.corpus[p.at])
			p.at++
		}
	}
	s := fmt.Sprintf("%d of %d", p.at, len(p.corpus))
	if p.done {
		s += " done"
	}
	return says(s)
}

// faultless is a step with which nothing goes wrong.
func faultless(r *rand.Rand) script.Step {
	x := script.Step{Kind: []int{1, 1, 2, 2, 2, 3, 4, 5, 6, 7, 8, 9, 9, 10}[r.Intn(14)], S: texts[r.Intn(len(texts))]}
	switch x.Kind {
	case script.Crash, script.Fail:
		x.N = []int{-1, -1, 100000}[r.Intn(3)]
	case script.Room:
		x.N = 1 << 20
	case script.Go:
		x.N = r.Intn(6) - 1
	case script.Restart:
		x.Choice = []int{r.Intn(9), r.Intn(99)}[:r.Intn(3)]
	}
	return x
}

// P26.2: scripts without faults have the specified results.
func TestFaultless(t *testing.T) {
	for seed := range int64(1000) {
		r := rand.New(rand.NewSource(seed))
		w := script.New(1<<20, run.Options{SyncEvery: r.Intn(2), SaveEvery: r.Intn(6), Limit: r.Intn(300)})
		var p plain
		for i := range 40 {
			x := faultless(r)
			if got, want := w.Do(x), p.do(x); got != want {
				t.Fatalf("seed %d, %d, %v: %v, want %v", seed, i, x, got, want)
			}
		}
	}
}

// faulty is a step with which something may go wrong.
func faulty(r *rand.Rand) script.Step {
	x := script.Step{Kind: []int{1, 2, 2, 2, 3, 4, 5, 6, 7, 7, 8, 9, 9, 10, 11, 12}[r.Intn(16)], S: texts[r.Intn(len(texts))]}
	switch x.Kind {
	case script.Go:
		x.N = r.Intn(6) - 1
	case script.Crash, script.Fail:
		x.N = r.Intn(20) - 1
	case script.Room:
		x.N = []int{r.Intn(1000), 1 << 20, 1 << 20}[r.Intn(3)]
	case script.Restart:
		x.Choice = []int{r.Intn(99) - 9, r.Intn(999) - 9, r.Intn(99)}[:r.Intn(4)]
	}
	return x
}

// anyOptions are any.
func anyOptions(r *rand.Rand) run.Options {
	return run.Options{SyncEvery: r.Intn(5), SaveEvery: r.Intn(8), Limit: r.Intn(300)}
}

// snapshot is what a disk has, and how much it did.
func snapshot(d *disk.Disk) string {
	names, e := d.Names()
	s := fmt.Sprint(d.Free(), d.Calls(), d.Dead(), e)
	for _, name := range names {
		text, _ := d.Read(name)
		s += fmt.Sprintf(" %q %q", name, text)
	}
	safe, saved := d.Safe()
	return s + fmt.Sprintf(" %q %q", safe, saved)
}

// P26.2: with and without faults, each step does with the disk and the campaign what the chapter says, and nothing else.
func TestByModel(t *testing.T) {
	errors := map[api.Errno]int{}
	for seed := range int64(1500) {
		r := rand.New(rand.NewSource(seed))
		o := anyOptions(r)
		w := script.New(3000, o)
		m := &world{d: disk.New(3000), o: o}
		for i := range 50 {
			x := faulty(r)
			got, want := w.Do(x), m.do(x)
			if got != want || snapshot(w.Disk()) != snapshot(m.d) {
				t.Fatalf("seed %d, %d, %v: %v, want %v\n%s\n%s", seed, i, x, got, want, snapshot(w.Disk()), snapshot(m.d))
			}
			errors[got.Err]++
		}
	}
	for _, e := range []api.Errno{api.OK, api.ErrArg, api.ErrNone, api.ErrFull, api.ErrIO, api.ErrDead} {
		if errors[e] < 300 {
			t.Errorf("error %d only %d times", e, errors[e])
		}
	}
}

// honest checks that a result has no verdict that is not the campaign's.
func honest(t *testing.T, corpus []string, x script.Step, got script.Result) {
	t.Helper()
	if got.Err != api.OK {
		if got.Text != "" {
			t.Fatalf("%v: %v", x, got)
		}
		return
	}
	switch x.Kind {
	case script.Query:
		if s, ok := campaign(corpus).Get(entry(x.S).Key); !ok || s != got.Text {
			t.Fatalf("query %q: %q", x.S, got.Text)
		}
	case script.Report:
		if part, e := report.Parse(got.Text); e != api.OK || !part.Within(campaign(corpus)) {
			t.Fatalf("report: %d, %q", e, got.Text)
		}
	}
}

// arrives gives space, and checks that the campaign's report is arrived at.
func arrives(t *testing.T, w *script.World, corpus []string, how string) {
	t.Helper()
	l, _, _ := script.Parse("room 1000000\ncrash -1\nfail -1\n" + how + "\nall\nreport\nfiles\n")
	got := w.Play(l)
	n := len(got)
	all := says(fmt.Sprintf("%d of %d done", len(corpus), len(corpus)))
	if got[n-3] != all || got[n-2] != says(reported(corpus)) || got[n-1] != says("store\n") {
		t.Fatalf("%v", got)
	}
	for _, s := range texts {
		want := fails(api.ErrNone)
		if text, ok := campaign(corpus).Get(entry(s).Key); ok {
			want = says(text)
		}
		if got := w.Do(script.Step{Kind: script.Query, S: s}); got != want {
			t.Fatalf("query %q: %v, want %v", s, got, want)
		}
	}
}

// P26.2: THE WHOLE: any faults; no verdict that is not the campaign's, and in the end its report.
func TestFaults(t *testing.T) {
	for seed := range int64(1500) {
		r := rand.New(rand.NewSource(seed))
		w := script.New(3000, anyOptions(r))
		var corpus []string
		for range 60 {
			x := faulty(r)
			if x.Kind == script.Text {
				corpus = append(corpus, x.S)
			}
			honest(t, corpus, x, w.Do(x))
		}
		if w.Disk().Dead() || r.Intn(2) == 0 {
			arrives(t, w, corpus, "restart 3 17")
		} else {
			arrives(t, w, corpus, "")
		}
	}
}

// corpus is one for exhaustive tests; filled is a world with it.
var corpus = []string{"1", one, "2\n", "1", fly, oneAgain, pair}

func filled(room int, o run.Options) *script.World {
	w := script.New(room, o)
	for _, s := range corpus {
		w.Do(script.Step{Kind: script.Text, S: s})
	}
	return w
}

// asked checks everything that a world tells about its verdicts.
func asked(t *testing.T, w *script.World) {
	t.Helper()
	for _, s := range texts {
		x := script.Step{Kind: script.Query, S: s}
		honest(t, corpus, x, w.Do(x))
	}
	x := script.Step{Kind: script.Report}
	honest(t, corpus, x, w.Do(x))
}

// P26.2: a crash at each call, and several numbers of names and bytes that survive it.
func TestEveryCrash(t *testing.T) {
	o := run.Options{SyncEvery: 2, SaveEvery: 3, Limit: 110}
	crashes := 0
	for n := range 60 {
		for k := range 12 {
			w := filled(1<<20, o)
			w.Do(script.Step{Kind: script.Crash, N: n})
			got := w.Do(script.Step{Kind: script.All})
			if got != fails(api.ErrDead) && got != says("7 of 7 done") {
				t.Fatalf("crash %d: %v", n, got)
			}
			if got.Err == api.ErrDead {
				crashes++
				w.Do(script.Step{Kind: script.Restart, Choice: []int{k % 4, []int{0, 17, 99}[k/4], 30}})
			}
			asked(t, w)
			arrives(t, w, corpus, "")
		}
	}
	if crashes < 200 {
		t.Errorf("only %d crashes", crashes)
	}
}

// P26.2: a failure at each call, with a crash after it or without one.
func TestEveryFailure(t *testing.T) {
	o := run.Options{SyncEvery: 2, SaveEvery: 3, Limit: 110}
	failures := 0
	for n := range 60 {
		for _, how := range []string{"", "restart", "restart 2 40"} {
			w := filled(1<<20, o)
			w.Do(script.Step{Kind: script.Fail, N: n})
			got := w.Do(script.Step{Kind: script.All})
			if got != fails(api.ErrIO) && got != says("7 of 7 done") {
				t.Fatalf("failure %d: %v", n, got)
			}
			if got.Err == api.ErrIO {
				failures++
			}
			asked(t, w)
			arrives(t, w, corpus, how)
		}
	}
	if failures < 50 {
		t.Errorf("only %d failures", failures)
	}
}

// P26.2: a disk of any size: it is reported as full, and with space the campaign's report is arrived at.
func TestEverySpace(t *testing.T) {
	full, enough := 0, 0
	for room := range 900 {
		w := filled(room, run.Options{SyncEvery: 2, SaveEvery: 4, Limit: 110})
		switch got := w.Do(script.Step{Kind: script.All}); got {
		case fails(api.ErrFull):
			full++
		case says("7 of 7 done"):
			enough++
		default:
			t.Fatalf("%d bytes: %v", room, got)
		}
		asked(t, w)
		arrives(t, w, corpus, []string{"", "restart", "restart 1 50"}[room%3])
	}
	if full < 100 || enough < 100 {
		t.Errorf("full %d times, enough %d times", full, enough)
	}
}

// P26.2: Play is Do for each step; the same script says the same again, and changes none of its steps.
func TestPlay(t *testing.T) {
	if got := script.New(100, usual).Play(nil); len(got) != 0 {
		t.Errorf("no steps: %v", got)
	}
	for seed := range int64(300) {
		r := rand.New(rand.NewSource(seed))
		o := anyOptions(r)
		var l []script.Step
		for range 60 {
			l = append(l, faulty(r))
		}
		before := fmt.Sprint(l)
		w := script.New(3000, o)
		var single []script.Result
		for _, x := range l {
			single = append(single, w.Do(x))
		}
		whole, again := script.New(3000, o), script.New(3000, o)
		results := whole.Play(l[:30])
		results = append(results[:30:30], whole.Play(l[30:])...)
		if !slices.Equal(results, single) || !slices.Equal(again.Play(l), single) || fmt.Sprint(l) != before {
			t.Fatalf("seed %d: %v, %v", seed, results, single)
		}
	}
}

// P26.2: the steps of a world are its own; what becomes of a list afterwards does not matter.
func TestOwnSteps(t *testing.T) {
	w := script.New(100000, usual)
	l := []script.Step{{Kind: script.Text, S: fly}, {Kind: script.Restart, Choice: []int{1, 2}}}
	got := w.Play(l)
	l[0].S, l[1].Choice[0] = one, 9
	if got[0] != says("") || got[1] != says("") {
		t.Errorf("%v", got)
	}
	does(t, w, expect{"all", says("1 of 1 done")}, expect{"query fly", says("\x0a\x01")}, expect{`query thread\nstore x 1`, fails(api.ErrNone)})
}

// P26.2: what a query returns can be read as the verdict on the text.
func TestVerdicts(t *testing.T) {
	w := script.New(1<<20, usual)
	for _, s := range texts {
		w.Do(script.Step{Kind: script.Text, S: s})
	}
	w.Do(script.Step{Kind: script.All})
	for _, s := range texts {
		got := w.Do(script.Step{Kind: script.Query, S: s})
		v, e := verdict.Read(got.Text)
		_, want := verdict.Judge(s)
		if got.Err != api.OK || e != api.OK || !verdict.Same(v, want) {
			t.Errorf("%q: %v", s, got)
		}
	}
}
