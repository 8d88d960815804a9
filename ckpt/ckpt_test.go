package ckpt_test

import (
	"slices"
	"strings"
	"testing"

	"ordeal/api"
	"ordeal/ckpt"
	"ordeal/disk"
	"ordeal/sha"
	"ordeal/table"
)

// filled is a table with these strings, each under its digest.
func filled(texts ...string) *table.Table {
	var t table.Table
	for _, s := range texts {
		t.Put(sha.Of(s), s)
	}
	return &t
}

// calls is more than any Save makes.
const calls = 8

// tables are what the tests save.
func tables() []*table.Table {
	return []*table.Table{
		filled("a", "b"),
		filled(),
		filled("c"),
		filled("a", "b", "c", ""),
		filled(strings.Repeat("long", 1000)),
	}
}

// loaded checks which table a disk has.
func loaded(t *testing.T, name string, d *disk.Disk, want *table.Table) {
	t.Helper()
	x, ok, e := ckpt.Load(d)
	if e != api.OK || !ok || x.Bytes() != want.Bytes() {
		t.Fatalf("%s: Load: %v, %d", name, ok, e)
	}
}

// none checks that a disk has no table.
func none(t *testing.T, name string, d *disk.Disk) {
	t.Helper()
	x, ok, e := ckpt.Load(d)
	if e != api.OK || ok || x == nil || x.Len() != 0 {
		t.Fatalf("%s: Load: %v, %d, want none", name, ok, e)
	}
}

// saved saves a table, without an error.
func saved(t *testing.T, d *disk.Disk, x *table.Table) {
	t.Helper()
	if e := ckpt.Save(d, x); e != api.OK {
		t.Fatalf("Save: %d", e)
	}
}

// holds checks which files a disk has, and their bytes: name, text and so on.
func holds(t *testing.T, name string, d *disk.Disk, want ...string) {
	t.Helper()
	names, e := d.Names()
	if e != api.OK {
		t.Errorf("%s: Names: %d", name, e)
	}
	var got []string
	for _, n := range names {
		s, _ := d.Read(n)
		got = append(got, n, s)
	}
	if !slices.Equal(got, want) {
		t.Errorf("%s: %q, want %q", name, got, want)
	}
}

// safe checks which files are safe, and their safe bytes.
func safe(t *testing.T, name string, d *disk.Disk, want ...string) {
	t.Helper()
	names, texts := d.Safe()
	var got []string
	for i, n := range names {
		got = append(got, n, texts[i])
	}
	if !slices.Equal(got, want) {
		t.Errorf("%s: safe %q, want %q", name, got, want)
	}
}

// planted is a disk with safe files: name, text and so on.
func planted(files ...string) *disk.Disk {
	d := disk.New(1 << 20)
	for i := 0; i < len(files); i += 2 {
		d.Create(files[i])
		d.Append(files[i], files[i+1])
		d.Sync(files[i])
	}
	d.SyncNames()
	return d
}

// P23.1: the names of the files.
func TestNames(t *testing.T) {
	if ckpt.Name != "store" || ckpt.Fresh != "store-new" {
		t.Errorf("%q, %q", ckpt.Name, ckpt.Fresh)
	}
}

// P23.1: Load returns what was saved last, which is safe; nothing else is on the disk.
func TestSaveAndLoad(t *testing.T) {
	d := disk.New(1 << 20)
	none(t, "a new disk", d)
	for i, x := range tables() {
		saved(t, d, x)
		loaded(t, "saved", d, x)
		loaded(t, "again", d, x)
		holds(t, "saved", d, ckpt.Name, x.Bytes())
		safe(t, "saved", d, ckpt.Name, x.Bytes())
		if got := d.Calls(); got != 5*(i+1) {
			t.Errorf("%d changing calls of %d Saves", got, i+1)
		}
		d.Restart([]int{i, i})
		loaded(t, "after a crash", d, x)
	}
}

// P23.1: a file that was being made does not count, and does not prevent a Save, which removes it first.
func TestLeftover(t *testing.T) {
	a, b := filled("a"), filled("b")
	for _, left := range []string{"", "half", b.Bytes(), strings.Repeat("+", 5000)} {
		d := planted(ckpt.Fresh, left, "other", "text")
		none(t, "no store", d)
		saved(t, d, a)
		loaded(t, "saved", d, a)
		holds(t, "saved", d, "other", "text", ckpt.Name, a.Bytes())
		safe(t, "saved", d, "other", "text", ckpt.Name, a.Bytes())
		if got := d.Calls(); got != 7+6 {
			t.Errorf("%d changing calls", got)
		}
		d = planted(ckpt.Fresh, left, ckpt.Name, a.Bytes())
		loaded(t, "a store", d, a)
		saved(t, d, b)
		loaded(t, "saved", d, b)
	}
}

// P23.1: Load returns the disk's errors and table.Parse's, and nothing beside them; it changes nothing.
func TestLoadErrors(t *testing.T) {
	good := filled("a", "b").Bytes()
	sum := sha.Of("ORDEALT2\x00")
	for _, c := range []struct {
		name, text string
		want       api.Errno
	}{
		{"nothing", "", api.ErrEnd},
		{"39 bytes", good[:39], api.ErrEnd},
		{"cut off", good[:len(good)-1], api.ErrSum},
		{"continued", good + "+", api.ErrSum},
		{"bent", good[:20] + "+" + good[21:], api.ErrSum},
		{"another beginning", "ORDEALT2\x00" + string(sum[:]), api.ErrForm},
		{"a table", good, api.OK},
	} {
		d := planted(ckpt.Name, c.text, ckpt.Fresh, good)
		before := d.Calls()
		x, ok, e := ckpt.Load(d)
		if e != c.want || ok != (e == api.OK) || (x == nil) == ok {
			t.Errorf("%s: %v, %d, want %d", c.name, ok, e, c.want)
		}
		holds(t, c.name, d, ckpt.Name, c.text, ckpt.Fresh, good)
		if d.Calls() != before {
			t.Errorf("%s: Load changes something", c.name)
		}
		// Whatever there was, it is replaced.
		saved(t, d, filled("c"))
		loaded(t, c.name, d, filled("c"))
	}
	for _, d := range []*disk.Disk{planted(), planted(ckpt.Name, good), planted(ckpt.Name, "")} {
		d.Crash(0)
		d.SyncNames()
		if x, ok, e := ckpt.Load(d); x != nil || ok || e != api.ErrDead {
			t.Errorf("dead: %v, %d", ok, e)
		}
	}
}

// P23.1: Clean removes what was being made, and nothing else; it returns the disk's errors.
func TestClean(t *testing.T) {
	d := planted(ckpt.Name, "one", ckpt.Fresh, "two", ckpt.Fresh+"-", "three")
	before := d.Calls()
	if e := ckpt.Clean(d); e != api.OK || d.Calls() != before+1 {
		t.Errorf("Clean: %d", e)
	}
	holds(t, "clean", d, ckpt.Name, "one", ckpt.Fresh+"-", "three")
	d.Fail(0)
	if e := ckpt.Clean(d); e != api.OK || d.Calls() != before+1 {
		t.Errorf("nothing to remove: %d", e)
	}
	d = planted(ckpt.Fresh, "two")
	d.Fail(0)
	if e := ckpt.Clean(d); e != api.ErrIO {
		t.Errorf("a failure: %d", e)
	}
	holds(t, "a failure", d, ckpt.Fresh, "two")
	d.Crash(0)
	if e := ckpt.Clean(d); e != api.ErrDead {
		t.Errorf("a crash: %d", e)
	}
	if e := ckpt.Clean(d); e != api.ErrDead {
		t.Errorf("dead: %d", e)
	}
	d.Restart([]int{1})
	holds(t, "after the crash", d)
	d.Crash(0)
	d.SyncNames()
	if e := ckpt.Clean(d); e != api.ErrDead {
		t.Errorf("dead, and nothing to remove: %d", e)
	}
}

// P23.1 and K3: Save does not change the table, and what Load returns is nobody else's.
func TestNothingIsShared(t *testing.T) {
	d := disk.New(1 << 20)
	x := filled("a", "b")
	want := x.Bytes()
	saved(t, d, x)
	if x.Bytes() != want {
		t.Error("Save changes the table")
	}
	x.Put(sha.Of("c"), "c")
	y, _, _ := ckpt.Load(d)
	y.Put(sha.Of("d"), "d")
	loaded(t, "changed", d, filled("a", "b"))
	empty, _, _ := ckpt.Load(disk.New(0))
	empty.Put(sha.Of("d"), "d")
	none(t, "changed", disk.New(0))
}

// start is a disk before the Save that is interrupted: with or without a table, and with or without a file that was being made.
type start struct {
	name  string
	old   *table.Table // or nil
	fresh string       // the bytes of the file that was being made; "-": there is none
	safe  bool         // that file is safe
}

func starts() []start {
	old := filled("old", "x", "y")
	return []start{
		{"nothing", nil, "-", false},
		{"a table", old, "-", false},
		{"an empty table", filled(), "-", false},
		{"a file being made", nil, "half", false},
		{"a safe file being made", nil, "half", true},
		{"a table and a file being made", old, "half", false},
		{"a table and a safe file being made", old, "half", true},
		{"a table and an empty file being made", old, "", false},
		{"a table and another one being made", old, filled("never saved").Bytes(), true},
	}
}

func (s start) disk(t *testing.T) *disk.Disk {
	t.Helper()
	d := disk.New(1 << 20)
	if s.old != nil {
		saved(t, d, s.old)
	}
	if s.fresh != "-" {
		d.Create(ckpt.Fresh)
		d.Append(ckpt.Fresh, s.fresh)
	}
	if s.safe {
		d.Sync(ckpt.Fresh)
		d.SyncNames()
	}
	return d
}

// either checks that a disk has the table from before or the new one, and tells which.
func (s start) either(t *testing.T, name string, d *disk.Disk, fresh *table.Table) bool {
	t.Helper()
	x, ok, e := ckpt.Load(d)
	if e != api.OK {
		t.Fatalf("%s, %s: Load: %d", s.name, name, e)
	}
	if ok && x.Bytes() == fresh.Bytes() {
		return true
	}
	if ok != (s.old != nil) || ok && x.Bytes() != s.old.Bytes() {
		t.Fatalf("%s, %s: neither the old nor the new table", s.name, name)
	}
	return false
}

// P23.2: a crash at each call of a Save, and each number of changes of names and of bytes that may be kept.
func TestEveryCrash(t *testing.T) {
	fresh := filled("new", "x")
	size := len(fresh.Bytes())
	for _, s := range starts() {
		var seen [2]int
		for n := range calls {
			for k := range 7 * (size + 1) {
				d := s.disk(t)
				d.Crash(n)
				e := ckpt.Save(d, fresh)
				if e != api.OK && e != api.ErrDead || (e == api.ErrDead) != d.Dead() {
					t.Fatalf("%s: %d", s.name, e)
				}
				d.Restart([]int{k % 7, k / 7, k / 7})
				isNew := s.either(t, "a crash", d, fresh)
				if e == api.OK && !isNew {
					t.Fatalf("%s: Save returned OK for a table that is lost", s.name)
				}
				if e == api.ErrDead && isNew {
					seen[1]++
				} else if !isNew {
					seen[0]++
				}
				saved(t, d, filled("later"))
				holds(t, s.name, d, ckpt.Name, filled("later").Bytes())
			}
		}
		// The rename may survive the crash or not.
		if seen[0] == 0 || seen[1] == 0 {
			t.Errorf("%s: %v", s.name, seen)
		}
	}
}

// P23.2: crashes during the Saves after a crash.
func TestCrashAfterCrash(t *testing.T) {
	a, b, c := filled("a"), filled("b", "b2"), filled("c")
	for i := range 6 * 6 * 6 {
		d := disk.New(1 << 20)
		saved(t, d, a)
		s := start{name: "first", old: a}
		for round, x := range []*table.Table{b, c} {
			d.Crash([]int{i % 6, i / 6 % 6}[round])
			e := ckpt.Save(d, x)
			d.Restart([]int{i / 36, i, i})
			if s.either(t, "a crash", d, x) {
				s.old = x
			} else if e == api.OK {
				t.Fatalf("%d: lost", i)
			}
			s.name = "second"
		}
	}
}

// P23.3: a failure at each call of a Save: it is returned, nothing more is done, and one of both tables is there, also after a crash; a later Save succeeds.
func TestEveryFailure(t *testing.T) {
	fresh := filled("new", "x")
	for _, s := range starts() {
		for n := range calls {
			for k := range 6 * 4 {
				d := s.disk(t)
				before := d.Calls()
				d.Fail(n)
				e := ckpt.Save(d, fresh)
				all := 5
				if s.fresh != "-" {
					all = 6
				}
				if e == api.OK && (n < all || d.Calls() != before+all) || e != api.OK && (e != api.ErrIO || n >= all || d.Calls() != before+n) {
					t.Fatalf("%s: failure %d: %d after %d calls", s.name, n, e, d.Calls()-before)
				}
				s.either(t, "a failure", d, fresh)
				if k > 0 {
					d.Restart([]int{k / 4, k % 4 * 20, k % 4 * 20})
				}
				if isNew := s.either(t, "and a crash", d, fresh); e == api.OK && !isNew {
					t.Fatalf("%s: lost", s.name)
				}
				d.Fail(-1)
				saved(t, d, filled("later"))
				loaded(t, s.name, d, filled("later"))
			}
		}
	}
}

// P23.3: without enough space Save returns ErrFull, and the old table is there; with space it succeeds.
func TestFull(t *testing.T) {
	fresh := filled("new", "x")
	for _, s := range starts() {
		for _, missing := range []int{1, 2, len(fresh.Bytes())} {
			d := s.disk(t)
			used := 1<<20 - d.Free()
			d.Room(used + len(fresh.Bytes()) - missing)
			if e := ckpt.Save(d, fresh); e != api.ErrFull {
				t.Fatalf("%s: %d", s.name, e)
			}
			for range 2 {
				if s.either(t, "a full disk", d, fresh) {
					t.Errorf("%s: the new table, without space", s.name)
				}
				d.Restart(nil)
			}
			d.Room(1 << 20)
			saved(t, d, fresh)
			loaded(t, s.name, d, fresh)
		}
		d := s.disk(t)
		d.Room(1<<20 - d.Free() + len(fresh.Bytes()))
		saved(t, d, fresh)
	}
}

// P23.2 and P23.3: at each call of a Save a failure and a crash are armed both.
func TestFailureAndCrash(t *testing.T) {
	fresh := filled("new", "x")
	for _, s := range starts() {
		for i := range calls * calls * 7 {
			d := s.disk(t)
			d.Fail(i % calls)
			d.Crash(i / calls % calls)
			first := ckpt.Save(d, fresh)
			second := ckpt.Save(d, fresh)
			d.Restart([]int{i / calls / calls, i, i})
			isNew := s.either(t, "both", d, fresh)
			if (first == api.OK || second == api.OK) && !isNew {
				t.Fatalf("%s: lost", s.name)
			}
		}
	}
}

// P23.2: the example of the chapter.
func TestExample(t *testing.T) {
	for n := range 5 {
		d := disk.New(1000)
		saved(t, d, filled("first"))
		d.Crash(n)
		if e := ckpt.Save(d, filled("second")); e != api.ErrDead {
			t.Errorf("a crash: %d", e)
		}
		if x, ok, e := ckpt.Load(d); x != nil || ok || e != api.ErrDead {
			t.Errorf("dead: %v, %d", ok, e)
		}
		d.Restart(nil)
		start{name: "example", old: filled("first")}.either(t, "a crash", d, filled("second"))
	}
}
