package wal_test

import (
	"math/rand"
	"slices"
	"strconv"
	"strings"
	"testing"

	"ordeal/api"
	"ordeal/disk"
	"ordeal/wal"
)

// world is a log on a disk, and what is known of its records.
type world struct {
	t     *testing.T
	d     *disk.Disk
	l     *wal.Log
	limit int
	made  int      // how many records there have ever been, so that no two are equal
	all   []string // the records since the last Retire, also one at which everything stopped
	kept  int      // how many of them were there at the last Sync that returned OK
	lost  int      // how many of them a Retire that returned an error may have removed
}

func newWorld(t *testing.T, limit int) *world {
	w := &world{t: t, d: disk.New(1 << 20), limit: limit}
	w.open()
	return w
}

// open looks for the records on the disk: all of them, or, after a crash, those that must be there.
func (w *world) open() {
	w.t.Helper()
	l, got, e := wal.Open(w.d, w.limit)
	if e != api.OK {
		w.t.Fatalf("Open: %d", e)
	}
	from := w.find(got, len(w.all))
	if from < 0 {
		w.t.Fatalf("Open: %q, want %q, of which %d may be lost", got, w.all, w.lost)
	}
	w.l, w.lost = l, from
}

// find is where the records got begin among the first n of all; below 0 if they are not there.
func (w *world) find(got []string, n int) int {
	from := n - len(got)
	if from < 0 || from > w.lost || !slices.Equal(got, w.all[from:n]) {
		return -1
	}
	return from
}

// restart makes a crash, and looks for a prefix with all that were kept (or what a Retire has left of that).
func (w *world) restart(choice []int) {
	w.t.Helper()
	w.d.Restart(choice)
	l, got, e := wal.Open(w.d, w.limit)
	if e != api.OK {
		w.t.Fatalf("Open: %d", e)
	}
	ok := false
	for n := w.kept; n <= len(w.all); n++ {
		ok = ok || w.find(got, n) >= 0
	}
	if !ok {
		w.t.Fatalf("after a crash: %q, want a prefix of %q with %d, of which %d may be lost", got, w.all, w.kept, w.lost)
	}
	w.l, w.all, w.kept, w.lost = l, got, len(got), 0
}

func (w *world) add(size int) api.Errno {
	w.made++
	record := strconv.Itoa(w.made) + strings.Repeat("+", size)
	e := w.l.Append(record)
	// The call at which everything stops takes effect, so that the record may be found.
	if e == api.OK || e == api.ErrDead {
		w.all = append(w.all, record)
	}
	return e
}

func (w *world) sync() api.Errno {
	e := w.l.Sync()
	if e == api.OK {
		w.kept = len(w.all)
	}
	return e
}

func (w *world) retire() api.Errno {
	before := w.d.Calls()
	e := w.l.Retire()
	if e != api.OK {
		w.kept, w.lost = 0, len(w.all)
	} else if w.d.Calls() > before {
		w.all, w.kept, w.lost = nil, 0, 0
	}
	return e
}

// choice is numbers for a Restart.
func choice(r *rand.Rand) []int {
	var list []int
	for range r.Intn(5) {
		list = append(list, r.Intn(100)-20)
	}
	return list
}

// step does something with the log, but arms nothing.
func (w *world) step(r *rand.Rand) api.Errno {
	switch r.Intn(12) {
	case 0, 1:
		return w.sync()
	case 2:
		if r.Intn(3) == 0 {
			return w.retire()
		}
	case 3:
		w.open()
	default:
		return w.add(r.Intn(30))
	}
	return api.OK
}

// P7.1: without a crash Open finds all records since the last Retire, however often the log is opened.
func TestWithoutCrash(t *testing.T) {
	for seed := range int64(500) {
		r := rand.New(rand.NewSource(seed))
		w := newWorld(t, r.Intn(200))
		for range 100 {
			if e := w.step(r); e != api.OK {
				t.Fatalf("seed %d: %d", seed, e)
			}
			w.open()
		}
	}
}

// scripts are what the exhaustive tests interrupt.
var scripts = []string{"aasaasa", "aaaoasaa", "aasRaasa", "aaaaoRaa", "aRaRa", "oaoaoasoao", "asaosaRoas"}

// play does the letters of a script one by one: a Append, s Sync, R Retire, o Open; it ends with the first error.
func (w *world) play(script string) api.Errno {
	for _, letter := range script {
		e := api.OK
		switch letter {
		case 'a':
			e = w.add(0)
		case 's':
			e = w.sync()
		case 'R':
			e = w.retire()
		case 'o':
			w.open()
		}
		if e != api.OK {
			return e
		}
	}
	return api.OK
}

// P7.2: a crash at each call of several scripts, with each number of names and of bytes that may be kept.
func TestEveryCrash(t *testing.T) {
	for _, script := range scripts {
		for _, limit := range []int{1, 40, 1000} {
			for n := range 50 {
				for k := range 5 * 45 {
					w := newWorld(t, limit)
					w.d.Crash(n)
					w.play(script)
					w.restart([]int{k / 45, k % 45, k % 20})
					w.add(3)
					w.open()
				}
			}
		}
	}
}

// P7.2: what Sync returned OK for is there after a crash, although everything else is lost.
func TestNothingElseKept(t *testing.T) {
	d := disk.New(1000)
	l := open(t, d, 40)
	put(t, l, "a", "b", "c", "d")
	l.Sync()
	put(t, l, "e", "f")
	d.Restart(nil)
	open(t, d, 40, "a", "b", "c", "d")
	d = disk.New(1000)
	l = open(t, d, 40)
	put(t, l, "a", "b", "c", "d", "e")
	d.Restart(nil)
	// The first two files were synced before the third one was created.
	open(t, d, 40, "a", "b", "c", "d")
}

// P7.2: any calls, crashes and failures, again and again.
func TestAnyCrash(t *testing.T) {
	for seed := range int64(3000) {
		r := rand.New(rand.NewSource(seed))
		w := newWorld(t, r.Intn(150))
		for range 60 {
			switch r.Intn(10) {
			case 0:
				w.d.Crash(r.Intn(12) - 1)
			case 1:
				w.d.Fail(r.Intn(12) - 1)
			case 2:
				w.d.Room(r.Intn(2) * (1 << 20))
			}
			if r.Intn(20) == 0 {
				w.restart(choice(r))
			}
			if e := w.step(r); e == api.ErrDead {
				w.restart(choice(r))
			} else if e != api.OK {
				w.open()
			}
		}
	}
}

// P7.3: a failure at each call of several scripts, or too little space: Open finds everything that was appended, and after a crash what was synced.
func TestEveryFailure(t *testing.T) {
	for _, script := range scripts {
		for _, limit := range []int{1, 40, 1000} {
			for n := range 150 {
				w := newWorld(t, limit)
				if n < 50 {
					w.d.Fail(n)
				} else {
					w.d.Room(n - 50)
				}
				w.play(script)
				w.open()
				w.restart(nil)
				w.d.Room(1000)
				if e := w.add(3); e != api.OK {
					t.Fatalf("%s, %d: with space: %d", script, n, e)
				}
				w.open()
			}
		}
	}
}
