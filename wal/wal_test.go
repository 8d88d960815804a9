package wal_test

import (
	"math"
	"slices"
	"strings"
	"testing"

	"ordeal/api"
	"ordeal/disk"
	"ordeal/frame"
	"ordeal/wal"
)

// open is the log of a disk, which has these records.
func open(t *testing.T, d *disk.Disk, limit int, want ...string) *wal.Log {
	t.Helper()
	l, records, e := wal.Open(d, limit)
	if e != api.OK || !slices.Equal(records, want) {
		t.Fatalf("Open: %q, %d, want %q", records, e, want)
	}
	return l
}

// put appends records, one after the other.
func put(t *testing.T, l *wal.Log, records ...string) {
	t.Helper()
	for _, record := range records {
		if e := l.Append(record); e != api.OK {
			t.Fatalf("Append %q: %d", record, e)
		}
	}
}

// framed is the frames of records, numbered from seq on.
func framed(seq uint64, records ...string) string {
	var all strings.Builder
	for i, record := range records {
		s, _ := frame.Write(seq+uint64(i), record)
		all.WriteString(s)
	}
	return all.String()
}

// planted is a disk with files that are not safe, but for their names: name, text and so on.
func planted(files ...string) *disk.Disk {
	d := disk.New(1 << 30)
	for i := 0; i < len(files); i += 2 {
		d.Create(files[i])
		d.Append(files[i], files[i+1])
	}
	d.SyncNames()
	return d
}

// holds checks which files a disk has, and their bytes: name, text and so on.
func holds(t *testing.T, name string, d *disk.Disk, want ...string) {
	t.Helper()
	names, e := d.Names()
	if e != api.OK {
		t.Errorf("%s: Names: %d", name, e)
	}
	var got []string
	for _, n := range names {
		s, _ := d.Read(n)
		got = append(got, n, s)
	}
	if !slices.Equal(got, want) {
		t.Errorf("%s: %q, want %q", name, got, want)
	}
}

// safe checks which files are safe, and their safe bytes.
func safe(t *testing.T, name string, d *disk.Disk, want ...string) {
	t.Helper()
	names, texts := d.Safe()
	var got []string
	for i, n := range names {
		got = append(got, n, texts[i])
	}
	if !slices.Equal(got, want) {
		t.Errorf("%s: safe %q, want %q", name, got, want)
	}
}

// P7.1: names of files.
func TestName(t *testing.T) {
	for seq, want := range map[uint64]string{
		0:                  "wal-0000000000000000",
		1:                  "wal-0000000000000001",
		10:                 "wal-000000000000000a",
		0x10:               "wal-0000000000000010",
		0x0123456789abcdef: "wal-0123456789abcdef",
		0xfedcba9876543210: "wal-fedcba9876543210",
		1 << 63:            "wal-8000000000000000",
		math.MaxUint64:     "wal-ffffffffffffffff",
	} {
		if got := wal.Name(seq); got != want {
			t.Errorf("Name(%d): %q, want %q", seq, got, want)
		}
	}
}

// P7.1: the example of the chapter.
func TestExample(t *testing.T) {
	d := disk.New(1000)
	l := open(t, d, 1000)
	put(t, l, "a", "b")
	if e := l.Sync(); e != api.OK {
		t.Errorf("Sync: %d", e)
	}
	d.Restart(nil)
	l = open(t, d, 1000, "a", "b")
	if l.Next() != 3 {
		t.Errorf("Next: %d", l.Next())
	}
	put(t, l, "c")
	holds(t, "example", d, wal.Name(1), framed(1, "a", "b"), "wal-0000000000000003", framed(3, "c"))
}

// P7.1: the contents are those of consecutive files; Open changes nothing.
func TestOpen(t *testing.T) {
	long := strings.Repeat("long", 1000)
	torn := framed(3, "torn")[:21]
	for _, c := range []struct {
		name  string
		files []string
		want  []string
		next  uint64
	}{
		{"nothing", nil, nil, 1},
		{"one file", []string{wal.Name(1), framed(1, "a", "", long)}, []string{"a", "", long}, 4},
		{"any first number", []string{wal.Name(77), framed(77, "a", "b")}, []string{"a", "b"}, 79},
		{"the number 0", []string{wal.Name(0), framed(0, "a")}, []string{"a"}, 1},
		{"an empty file", []string{wal.Name(5), ""}, nil, 5},
		{"no frame", []string{wal.Name(5), "no frame"}, nil, 5},
		{"numbers that are not those of the name", []string{wal.Name(5), framed(6, "a")}, nil, 5},
		{"a gap in a file", []string{wal.Name(1), framed(1, "a") + framed(3, "c")}, []string{"a"}, 2},
		{"three files", []string{wal.Name(3), framed(3, "c", "d"), wal.Name(1), framed(1, "a", "b"), wal.Name(5), framed(5, "e")}, []string{"a", "b", "c", "d", "e"}, 6},
		{"in the order of numbers", []string{wal.Name(9), framed(9, "a"), wal.Name(10), framed(10, "b", "c", "d", "e", "f", "g"), wal.Name(16), framed(16, "h")}, []string{"a", "b", "c", "d", "e", "f", "g", "h"}, 17},
		{"something torn between", []string{wal.Name(1), framed(1, "a", "b") + torn, wal.Name(3), framed(3, "c")}, []string{"a", "b", "c"}, 4},
		{"something torn at the end", []string{wal.Name(1), framed(1, "a", "b"), wal.Name(3), torn}, []string{"a", "b"}, 3},
		{"an empty file at the end", []string{wal.Name(1), framed(1, "a", "b"), wal.Name(3), ""}, []string{"a", "b"}, 3},
		{"a gap", []string{wal.Name(1), framed(1, "a", "b"), wal.Name(4), framed(4, "d")}, []string{"a", "b"}, 3},
		{"a gap behind an empty file", []string{wal.Name(1), "", wal.Name(2), framed(2, "b")}, nil, 1},
		{"a gap behind a torn record", []string{wal.Name(2), framed(2, "b") + torn, wal.Name(4), framed(4, "d")}, []string{"b"}, 3},
		{"an overlap", []string{wal.Name(1), framed(1, "a", "b"), wal.Name(2), framed(2, "B"), wal.Name(3), framed(3, "c")}, []string{"a", "b"}, 3},
		{"past the greatest number", []string{wal.Name(math.MaxUint64), framed(math.MaxUint64, "a", "b", "c")}, []string{"a", "b", "c"}, 2},
		{"up to the greatest number", []string{wal.Name(math.MaxUint64), framed(math.MaxUint64, "a")}, []string{"a"}, 0},
	} {
		d := planted(c.files...)
		calls := d.Calls()
		l := open(t, d, 100, c.want...)
		if l.Next() != c.next || d.Calls() != calls {
			t.Errorf("%s: Next %d, want %d; %d calls", c.name, l.Next(), c.next, d.Calls()-calls)
		}
	}
}

// strangers are names that are not those of a log's files, though almost.
var strangers = []string{
	"0000000000000001", "WAL-0000000000000001", "store", "store-new", "wal", "wal-", "wal-+000000000000001",
	"wal-00000000000000010", "wal-000000000000000A", "wal-000000000000000g", "wal-000000000000001", "wal-0x00000000000001",
	"wal-0000_00000000001", "wal_0000000000000001", "wal-0000000000000001 ", "wal-0000000000000001.", "xwal-0000000000000001", "wal-wal-0000000000000001",
}

// P7.1: other files are neither read nor removed.
func TestOtherFiles(t *testing.T) {
	d := planted(wal.Name(1), framed(1, "a"))
	for _, name := range strangers {
		d.Create(name)
		d.Append(name, framed(1, "stranger"))
	}
	l := open(t, d, 100, "a")
	put(t, l, "b")
	if e := l.Retire(); e != api.OK {
		t.Errorf("Retire: %d", e)
	}
	names, _ := d.Names()
	if want := slices.Sorted(slices.Values(strangers)); !slices.Equal(names, want) {
		t.Errorf("%q, want %q", names, want)
	}
	calls := d.Calls()
	if e := l.Retire(); e != api.OK || d.Calls() != calls {
		t.Errorf("Retire: %d, %d calls", e, d.Calls()-calls)
	}
}

// P7.1: a file has at most limit bytes, unless it has only one record.
func TestLimit(t *testing.T) {
	records := []string{"", "a", strings.Repeat("b", 12), "", "", strings.Repeat("c", 100), "d", "", "e"}
	for limit := -1; limit < 260; limit++ {
		var files []string
		seq := uint64(1)
		for i, record := range records {
			s := framed(uint64(i)+1, record)
			if n := len(files); n > 0 && len(files[n-1])+len(s) <= limit {
				files[n-1] += s
			} else {
				files = append(files, wal.Name(seq), s)
			}
			seq++
		}
		d := disk.New(10000)
		l := open(t, d, limit)
		put(t, l, records...)
		holds(t, "limit", d, files...)
		open(t, d, limit, records...)
	}
	for limit, want := range map[int]int{math.MinInt: 9, 0: 9, 1: 9, math.MaxInt: 1} {
		d := disk.New(10000)
		put(t, open(t, d, limit), records...)
		if names, _ := d.Names(); len(names) != want {
			t.Errorf("limit %d: %d files, want %d", limit, len(names), want)
		}
	}
}

// P7.1: Next counts what was appended, also beyond a Retire.
func TestNext(t *testing.T) {
	d := disk.New(10000)
	l := open(t, d, 50)
	for i := range uint64(20) {
		if l.Next() != i+1 {
			t.Errorf("Next: %d, want %d", l.Next(), i+1)
		}
		put(t, l, "record")
		if i%3 == 0 {
			l.Sync()
		}
		if i%7 == 0 {
			l.Retire()
		}
	}
	d = planted(wal.Name(math.MaxUint64), "")
	l = open(t, d, 1000)
	put(t, l, "a", "b")
	if l.Next() != 1 {
		t.Errorf("past the greatest number: %d", l.Next())
	}
	open(t, d, 1000, "a", "b")
}

// P7.1: a record that is too long changes nothing, whatever the disk is like, and another one can be appended.
func TestTooLong(t *testing.T) {
	long := strings.Repeat("0123456789abcdef", api.MaxRecord/16)
	d := disk.New(1 << 30)
	l := open(t, d, 10)
	if e := l.Append(long + "x"); e != api.ErrMany || d.Calls() != 0 || l.Next() != 1 {
		t.Errorf("Append: %d, %d calls, Next %d", e, d.Calls(), l.Next())
	}
	put(t, l, "a", long)
	if e := l.Append(long + "x"); e != api.ErrMany || l.Next() != 3 {
		t.Errorf("Append: %d, Next %d", e, l.Next())
	}
	put(t, l, "b")
	open(t, d, 10, "a", long, "b")
	d.Crash(0)
	d.SyncNames()
	if e := l.Append(long + "x"); e != api.ErrMany {
		t.Errorf("dead: %d", e)
	}
}

// P7.1: the next record goes to a new file, which replaces one of its name; others stay as they are.
func TestReplace(t *testing.T) {
	torn := framed(3, "torn")[:20]
	first := framed(1, "a", "b") + "OJ"
	for _, c := range []struct {
		name  string
		files []string
		calls int // Sync of each, Remove, Create, SyncNames, Append
	}{
		{"no file", nil, 4},
		{"empty", []string{wal.Name(3), ""}, 6},
		{"torn", []string{wal.Name(3), torn}, 6},
		{"bent", []string{wal.Name(3), framed(3, "bent")[:21] + "x"}, 6},
	} {
		d := planted(append([]string{wal.Name(1), first}, c.files...)...)
		calls := d.Calls()
		l := open(t, d, 1000, "a", "b")
		put(t, l, "c")
		if d.Calls() != calls+c.calls {
			t.Errorf("%s: %d calls, want %d", c.name, d.Calls()-calls, c.calls)
		}
		holds(t, c.name, d, wal.Name(1), first, wal.Name(3), framed(3, "c"))
		safe(t, c.name, d, wal.Name(1), first, wal.Name(3), "")
		put(t, l, "d")
		open(t, d, 1000, "a", "b", "c", "d")
	}
}

// P7.1: Append syncs and makes a file only where it has to.
func TestCallsOfAppend(t *testing.T) {
	d := disk.New(1000)
	l := open(t, d, 40)
	calls := func(name string, want int, do func() api.Errno) {
		t.Helper()
		before := d.Calls()
		if e := do(); e != api.OK || d.Calls() != before+want {
			t.Errorf("%s: %d, %d calls, want %d", name, e, d.Calls()-before, want)
		}
	}
	add := func() api.Errno { return l.Append("ab") }
	calls("Sync of nothing", 0, l.Sync)
	calls("Create, SyncNames, Append", 3, add)
	calls("Append", 1, add)
	safe(t, "nothing synced", d, wal.Name(1), "")
	calls("Sync, Create, SyncNames, Append", 4, add)
	safe(t, "the first file", d, wal.Name(1), framed(1, "ab", "ab"), wal.Name(3), "")
	calls("Sync", 1, l.Sync)
	calls("Sync again", 0, l.Sync)
	calls("Append", 1, add)
	calls("Sync", 1, l.Sync)
	calls("Create, SyncNames, Append", 3, add)
	calls("Remove, Remove, Remove, SyncNames", 4, l.Retire)
	safe(t, "nothing", d)
	calls("Sync of nothing", 0, l.Sync)
	calls("Retire of nothing", 0, l.Retire)
	calls("Create, SyncNames, Append", 3, add)
	holds(t, "a new file", d, wal.Name(6), framed(6, "ab"))
}

// P7.1 and P7.2: Sync syncs the files that Open found, in the order of their numbers, once; then what was appended.
func TestSync(t *testing.T) {
	a, b, c := framed(1, "a"), framed(2, "b"), framed(3, "c")
	files := func() *disk.Disk { return planted(wal.Name(3), c, wal.Name(1), a, wal.Name(2), b) }
	for n, want := range [][]string{{"", "", ""}, {a, "", ""}, {a, b, ""}} {
		d := files()
		l := open(t, d, 1, "a", "b", "c")
		d.Crash(n)
		if e := l.Sync(); e != api.ErrDead {
			t.Errorf("Sync: %d", e)
		}
		safe(t, "in order", d, wal.Name(1), want[0], wal.Name(2), want[1], wal.Name(3), want[2])
	}
	d := files()
	l := open(t, d, 100, "a", "b", "c")
	before := d.Calls()
	l.Sync()
	l.Sync()
	safe(t, "all", d, wal.Name(1), a, wal.Name(2), b, wal.Name(3), c)
	put(t, l, "d")
	l.Sync()
	l.Sync()
	safe(t, "the new one", d, wal.Name(1), a, wal.Name(2), b, wal.Name(3), c, wal.Name(4), framed(4, "d"))
	if d.Calls() != before+3+3+1 {
		t.Errorf("%d calls", d.Calls()-before)
	}
	d = files()
	l = open(t, d, 100, "a", "b", "c")
	put(t, l, "d")
	safe(t, "found files before a new one", d, wal.Name(1), a, wal.Name(2), b, wal.Name(3), c, wal.Name(4), "")
}

// P7.1 and P7.2: Retire removes all files of the log, in the order of their numbers.
func TestRetire(t *testing.T) {
	for n, want := range [][]uint64{{1, 2, 9, 10}, {2, 9, 10}, {9, 10}, {10}, nil} {
		d := planted(wal.Name(2), framed(2, "b"), wal.Name(10), "", wal.Name(1), framed(1, "a"), wal.Name(9), framed(9, "i"))
		l := open(t, d, 1, "a", "b")
		d.Fail(n)
		if e := l.Retire(); e != api.ErrIO {
			t.Errorf("Retire: %d", e)
		}
		var left []string
		for _, seq := range want {
			left = append(left, wal.Name(seq))
		}
		if names, _ := d.Names(); !slices.Equal(names, left) {
			t.Errorf("%d calls: %q, want %q", n, names, left)
		}
	}
	d := planted(wal.Name(1), framed(1, "a"), wal.Name(2), framed(2, "b"), wal.Name(9), framed(9, "i"))
	l := open(t, d, 1000, "a", "b")
	if e := l.Retire(); e != api.OK || l.Next() != 3 {
		t.Errorf("Retire: %d, Next %d", e, l.Next())
	}
	safe(t, "retired", d)
	if e := l.Sync(); e != api.OK {
		t.Errorf("Sync: %d", e)
	}
	put(t, l, "c", "d")
	holds(t, "after Retire", d, wal.Name(3), framed(3, "c", "d"))
	l = open(t, d, 1000, "c", "d")
	put(t, l, "e")
	if e := l.Retire(); e != api.OK {
		t.Errorf("Retire: %d", e)
	}
	holds(t, "retired again", d)
	if l := open(t, d, 1000); l.Next() != 1 {
		t.Errorf("Next: %d", l.Next())
	}
}

// P7.1: each call returns the disk's error at whichever of its calls it occurs, and does nothing more.
func TestErrors(t *testing.T) {
	start := func() (*disk.Disk, *wal.Log) {
		d := planted(wal.Name(1), framed(1, "a"), wal.Name(2), framed(2, "b"), wal.Name(3), framed(3, "torn")[:20])
		return d, open(t, d, 1, "a", "b")
	}
	for _, c := range []struct {
		name  string
		do    func(l *wal.Log) api.Errno
		calls int
	}{
		{"Append", func(l *wal.Log) api.Errno { return l.Append("c") }, 7},
		{"Sync", func(l *wal.Log) api.Errno { return l.Sync() }, 3},
		{"Retire", func(l *wal.Log) api.Errno { return l.Retire() }, 4},
	} {
		for n := range c.calls {
			d, l := start()
			before := d.Calls()
			d.Fail(n)
			if e := c.do(l); e != api.ErrIO || d.Calls() != before+n {
				t.Errorf("%s, failing after %d: %d, %d calls", c.name, n, e, d.Calls()-before)
			}
			d, l = start()
			before = d.Calls()
			d.Crash(n)
			if e := c.do(l); e != api.ErrDead || d.Calls() != before+n {
				t.Errorf("%s, stopping after %d: %d, %d calls", c.name, n, e, d.Calls()-before)
			}
		}
		d, l := start()
		d.Fail(c.calls)
		if e := c.do(l); e != api.OK {
			t.Errorf("%s: %d", c.name, e)
		}
		d, l = start()
		d.Crash(0)
		d.SyncNames()
		if e := c.do(l); e != api.ErrDead {
			t.Errorf("%s, dead: %d", c.name, e)
		}
	}
}

// P7.1: without its disk there is no log.
func TestDead(t *testing.T) {
	d := planted(wal.Name(1), framed(1, "a"))
	d.Crash(0)
	d.SyncNames()
	if l, records, e := wal.Open(d, 100); l != nil || len(records) != 0 || e != api.ErrDead {
		t.Errorf("Open: %v, %q, %d", l, records, e)
	}
	d.Restart(nil)
	open(t, d, 100)
	l := open(t, d, 100)
	d.Crash(0)
	d.SyncNames()
	if e := l.Retire(); e != api.ErrDead {
		t.Errorf("Retire without files: %d", e)
	}
}

// P7.3: a full disk takes no record that is too long for it, and loses none.
func TestFull(t *testing.T) {
	for room := range 200 {
		d := disk.New(room)
		l := open(t, d, 50)
		var kept []string
		for _, record := range []string{"one", "two", "three", "four", "five", "six"} {
			e := l.Append(record)
			if (e == api.OK) != (len(framed(1, append(kept, record)...)) <= room) || e != api.OK && e != api.ErrFull {
				t.Fatalf("room %d: Append %q: %d", room, record, e)
			}
			if e != api.OK {
				break
			}
			kept = append(kept, record)
			l.Sync()
		}
		open(t, d, 50, kept...)
		d.Restart(nil)
		l = open(t, d, 50, kept...)
		d.Room(1000)
		put(t, l, "more")
		open(t, d, 50, append(kept, "more")...)
	}
}
