package run_test

import (
	"math/rand"
	"testing"

	"ordeal/api"
	"ordeal/ckpt"
	"ordeal/disk"
	"ordeal/run"
	"ordeal/table"
)

// world is a campaign on a disk where things go wrong, and what must be there nevertheless.
type world struct {
	t      *testing.T
	d      *disk.Disk
	corpus []string
	o      run.Options
	whole  *table.Table // the campaign's
	synced *table.Table // what was there at the last sync that returned OK
}

func newWorld(t *testing.T, room int, corpus []string, o run.Options) *world {
	return &world{t: t, d: disk.New(room), corpus: corpus, o: o, whole: campaign(corpus), synced: &table.Table{}}
}

// contents are those of the disk; they must have what was synced, and nothing that is not the campaign's.
func (w *world) contents() *table.Table {
	w.t.Helper()
	x, _, e := run.Recover(w.d, w.o.Limit)
	if e != api.OK {
		w.t.Fatalf("Recover: %d", e)
	}
	if !w.synced.Within(x) || !x.Within(w.whole) {
		w.t.Fatalf("%d verdicts, of which %d were synced; the campaign has %d", x.Len(), w.synced.Len(), w.whole.Len())
	}
	return x
}

// step does one step, and watches what is synced.
func (w *world) step(r *run.Run) api.Errno {
	w.t.Helper()
	kept, at := r.Kept(), r.At()
	done, e := r.Step()
	x := r.Table()
	if r.Kept() != kept || done {
		w.synced = x
	}
	if done != r.Done() || done && e != api.OK || r.Kept() > x.Len() || r.Kept() < kept || r.At() < at || r.At() > at+1 {
		w.t.Fatalf("Step: %v, %d, Done %v, Kept %d of %d, At %d", done, e, r.Done(), r.Kept(), x.Len(), r.At())
	}
	if !campaign(w.corpus[:r.At()]).Within(x) || !x.Within(w.whole) {
		w.t.Fatalf("%d verdicts after %d texts", x.Len(), r.At())
	}
	return e
}

// play opens the campaign, and goes on until everything is done or something is wrong.
func (w *world) play() api.Errno {
	w.t.Helper()
	r, e := run.Open(w.d, w.corpus, w.o)
	if e != api.OK {
		w.t.Fatalf("Open: %d", e)
	}
	for e == api.OK && !r.Done() {
		e = w.step(r)
	}
	// Without a crash nothing at all is lost.
	if e != api.ErrDead && !equal(w.contents(), r.Table()) {
		w.t.Fatalf("%d: %d verdicts on the disk, %d in the campaign", e, w.contents().Len(), r.Table().Len())
	}
	return e
}

// restart makes a crash.
func (w *world) restart(choice ...int) {
	w.t.Helper()
	w.d.Restart(choice)
	w.contents()
}

// completes plays with enough space and without faults.
func (w *world) completes() {
	w.t.Helper()
	w.d.Room(1 << 20)
	w.d.Crash(-1)
	w.d.Fail(-1)
	if e := w.play(); e != api.OK {
		w.t.Fatalf("with space: %d", e)
	}
	if s, e := w.d.Read(ckpt.Name); e != api.OK || s != w.whole.Bytes() {
		w.t.Fatalf("store: %d", e)
	}
	w.restart()
	if names, _ := w.d.Names(); len(names) != 1 || !equal(w.contents(), w.whole) {
		w.t.Fatalf("at the end: %q", names)
	}
}

// short is a corpus for exhaustive tests.
func short() []string {
	return []string{"1", one, "2", "1", "3", oneAgain, "4"}
}

// options are those of exhaustive tests.
func options() []run.Options {
	return []run.Options{
		{SyncEvery: 2, SaveEvery: 3, Limit: 0},
		{SyncEvery: 2, SaveEvery: 4, Limit: 110},
		{SyncEvery: 1, SaveEvery: 9, Limit: 1000},
		{SyncEvery: 9, SaveEvery: 9, Limit: 60},
		{SyncEvery: 3, SaveEvery: 2, Limit: 1000},
		{},
	}
}

// P24.1 and P24.2: a crash at each call, and each number of names and several of bytes that may be kept.
func TestEveryCrash(t *testing.T) {
	for _, o := range options() {
		for n := range 70 {
			for k := range 6 * 4 {
				w := newWorld(t, 1<<20, short(), o)
				w.d.Crash(n)
				if e := w.play(); e != api.OK && e != api.ErrDead || (e == api.ErrDead) != w.d.Dead() {
					t.Fatalf("crash %d: %d", n, e)
				}
				w.restart(k%6, []int{0, 17, 60, 400}[k/6], 30)
				w.completes()
			}
		}
	}
}

// P24.1 and P24.2: a crash at each call of two runs, one after the other.
func TestCrashAfterCrash(t *testing.T) {
	for _, o := range options() {
		for n := range 40 {
			for m := range 40 {
				w := newWorld(t, 1<<20, short(), o)
				w.d.Crash(n)
				w.play()
				w.restart(m+n, n*m, n)
				w.d.Crash(m)
				w.play()
				w.restart(m*n, m)
				w.completes()
			}
		}
	}
}

// P24.1: everything stops again and again, and yet the campaign is completed.
func TestManyCrashes(t *testing.T) {
	for _, o := range options() {
		for first := range 30 {
			w := newWorld(t, 1<<20, short(), o)
			for n := first; ; n++ {
				w.d.Crash(n)
				if w.play() == api.OK {
					break
				}
				if n > 200 {
					t.Fatalf("it is not completed by %d changing calls", n)
				}
				w.restart(n, 2*n, 3*n)
			}
			w.completes()
		}
	}
}

// P24.4: a failure at each call, with a crash after it or without one: it is reported, and the campaign can be completed.
func TestEveryFailure(t *testing.T) {
	for _, o := range options() {
		failures := 0
		for n := range 70 {
			for k := range 5 {
				w := newWorld(t, 1<<20, short(), o)
				w.d.Fail(n)
				e := w.play()
				if e != api.OK && (e != api.ErrIO || w.d.Calls() != n) || e == api.OK && w.d.Calls() > n {
					t.Fatalf("failure %d: %d", n, e)
				}
				if e == api.ErrIO {
					failures++
				}
				if k > 0 {
					w.restart(k, 10*k, 40)
				}
				w.completes()
			}
		}
		if failures < 50 {
			t.Errorf("%+v: only %d failures", o, failures)
		}
	}
}

// P24.4: a disk of any size: if that is too little, the disk is reported as full, again and again; with space the campaign completes.
func TestEverySpace(t *testing.T) {
	for _, o := range options() {
		full, enough := 0, 0
		for room := range 900 {
			w := newWorld(t, room, short(), o)
			e := w.play()
			if e != api.OK && e != api.ErrFull {
				t.Fatalf("%d bytes: %d", room, e)
			}
			if e == api.OK {
				enough++
			} else {
				full++
				if room%2 == 0 {
					w.restart(room, room/2)
				}
				if e := w.play(); e != api.OK && e != api.ErrFull {
					t.Fatalf("%d bytes, again: %d", room, e)
				}
			}
			w.completes()
		}
		if full < 100 || enough < 100 {
			t.Errorf("%+v: full %d times, enough %d times", o, full, enough)
		}
	}
}

// P24.4: a failing disk in the last save: the run is not done, although all texts are.
func TestLastSave(t *testing.T) {
	corpus := short()
	for n := range 7 {
		w := newWorld(t, 1<<20, corpus, run.Options{SyncEvery: 9, SaveEvery: 9, Limit: 1000})
		r, _ := run.Open(w.d, corpus, w.o)
		for range corpus {
			w.step(r)
		}
		w.d.Fail(n)
		if done, e := r.Step(); done || e != api.ErrIO || r.Done() || r.At() != len(corpus) {
			t.Errorf("failure %d: %v, %d, %v", n, done, e, r.Done())
		}
		w.completes()
	}
}

// P24.1, P24.2 and P24.4: any options, crashes, failures and sizes of the disk, again and again.
func TestAnything(t *testing.T) {
	complete := 0
	for seed := range int64(1500) {
		r := rand.New(rand.NewSource(seed))
		o := run.Options{SyncEvery: r.Intn(5), SaveEvery: r.Intn(8), Limit: r.Intn(200)}
		w := newWorld(t, 1<<20, randomCorpus(r), o)
		for range 12 {
			switch r.Intn(4) {
			case 0:
				w.d.Crash(r.Intn(30))
			case 1:
				w.d.Fail(r.Intn(30))
			case 2:
				w.d.Crash(r.Intn(40))
				w.d.Fail(r.Intn(40))
			}
			w.d.Room([]int{1 << 20, 1 << 20, r.Intn(1000)}[r.Intn(3)])
			switch e := w.play(); e {
			case api.OK:
				complete++
			case api.ErrIO, api.ErrFull, api.ErrDead:
			default:
				t.Fatalf("seed %d: %d", seed, e)
			}
			if w.d.Dead() || r.Intn(3) == 0 {
				w.restart(r.Intn(100)-20, r.Intn(100)-20, r.Intn(100))
			}
		}
		w.completes()
	}
	if complete < 1500 {
		t.Errorf("only %d runs completed", complete)
	}
}

// P24.2: the corpus may grow between two runs; what is there stays.
func TestGrowingCorpus(t *testing.T) {
	all := append(short(), pair, "5", buffering)
	for n := range 60 {
		d := disk.New(1 << 20)
		for size := range len(all) + 1 {
			w := newWorld(t, 0, all[:size], run.Options{SyncEvery: 2, SaveEvery: 3, Limit: 80})
			w.d = d
			d.Room(1 << 20)
			d.Crash(n)
			if w.play() == api.ErrDead {
				w.restart(n, n)
			}
			w.completes()
		}
	}
}
