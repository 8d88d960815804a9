package disk_test

import (
	"math"
	"math/rand"
	"slices"
	"strings"
	"testing"

	"ordeal/api"
	"ordeal/disk"
)

// want checks the errors of several calls in a row.
func want(t *testing.T, name string, got, want []api.Errno) {
	t.Helper()
	if !slices.Equal(got, want) {
		t.Errorf("%s: %v, want %v", name, got, want)
	}
}

// holds checks which files there are now, and their bytes: name, text, name, text and so on.
func holds(t *testing.T, name string, d *disk.Disk, want ...string) {
	t.Helper()
	names, e := d.Names()
	if e != api.OK {
		t.Errorf("%s: Names: %d", name, e)
	}
	var got []string
	for _, n := range names {
		s, e := d.Read(n)
		if e != api.OK {
			t.Errorf("%s: Read %q: %d", name, n, e)
		}
		got = append(got, n, s)
	}
	if !slices.Equal(got, want) {
		t.Errorf("%s: %q, want %q", name, got, want)
	}
}

// safe checks which files are safe, and their safe bytes.
func safe(t *testing.T, name string, d *disk.Disk, want ...string) {
	t.Helper()
	names, texts := d.Safe()
	var got []string
	for i, n := range names {
		got = append(got, n, texts[i])
	}
	if len(names) != len(texts) || !slices.Equal(got, want) {
		t.Errorf("%s: %q %q, want %q", name, names, texts, want)
	}
}

// filled is a disk with files that are safe: name, text and so on.
func filled(room int, files ...string) *disk.Disk {
	d := disk.New(room)
	for i := 0; i < len(files); i += 2 {
		d.Create(files[i])
		d.Append(files[i], files[i+1])
		d.Sync(files[i])
	}
	d.SyncNames()
	return d
}

// P5.1: a new disk has no files; its capacity is at least 0.
func TestNew(t *testing.T) {
	for _, room := range []int{math.MinInt, -1, 0, 1, 10, math.MaxInt} {
		d := disk.New(room)
		holds(t, "New", d)
		safe(t, "New", d)
		if d.Free() != max(room, 0) || d.Calls() != 0 || d.Dead() {
			t.Errorf("New(%d): Free %d, Calls %d, Dead %v", room, d.Free(), d.Calls(), d.Dead())
		}
	}
	a, b := disk.New(5), disk.New(5)
	a.Create("a")
	holds(t, "another disk", b)
}

// P5.1: Create, its errors in their order.
func TestCreate(t *testing.T) {
	d := disk.New(0)
	want(t, "Create", []api.Errno{d.Create("b"), d.Create("a"), d.Create("a"), d.Create(""), d.Create("\x00"), d.Create("b\xff")},
		[]api.Errno{api.OK, api.OK, api.ErrThere, api.ErrArg, api.OK, api.OK})
	holds(t, "Create", d, "\x00", "", "a", "", "b", "", "b\xff", "")
	d.Fail(0)
	want(t, "failing", []api.Errno{d.Create(""), d.Create("a"), d.Create("c"), d.Create("c")}, []api.Errno{api.ErrArg, api.ErrThere, api.ErrIO, api.OK})
	d.Crash(0)
	want(t, "stopping", []api.Errno{d.Create(""), d.Create("c"), d.Create("d"), d.Create(""), d.Create("c")}, []api.Errno{api.ErrArg, api.ErrThere, api.ErrDead, api.ErrDead, api.ErrDead})
}

// P5.1: Append and Read, their errors in their order.
func TestAppend(t *testing.T) {
	d := disk.New(5)
	d.Create("a")
	want(t, "Append", []api.Errno{d.Append("b", "123456"), d.Append("", ""), d.Append("a", "123456"), d.Append("a", "123"), d.Append("a", ""), d.Append("a", "456"), d.Append("a", "\xff\x00"), d.Append("a", "")},
		[]api.Errno{api.ErrNone, api.ErrNone, api.ErrFull, api.OK, api.OK, api.ErrFull, api.OK, api.OK})
	holds(t, "Append", d, "a", "123\xff\x00")
	d.Room(0)
	d.Fail(0)
	want(t, "failing", []api.Errno{d.Append("b", ""), d.Append("a", "x"), d.Append("a", ""), d.Append("a", "")}, []api.Errno{api.ErrNone, api.ErrFull, api.ErrIO, api.OK})
	if s, e := d.Read("b"); s != "" || e != api.ErrNone {
		t.Errorf("Read: %q, %d", s, e)
	}
	if s, e := d.Read(""); s != "" || e != api.ErrNone {
		t.Errorf("Read: %q, %d", s, e)
	}
}

// P5.1: Sync and SyncNames make safe what there is then, each of them its part only.
func TestSync(t *testing.T) {
	d := disk.New(100)
	want(t, "Sync", []api.Errno{d.Sync("a"), d.Sync(""), d.Create("a"), d.Append("a", "xy"), d.Sync("a")}, []api.Errno{api.ErrNone, api.ErrNone, api.OK, api.OK, api.OK})
	safe(t, "bytes only", d)
	want(t, "SyncNames", []api.Errno{d.Append("a", "z"), d.SyncNames()}, []api.Errno{api.OK, api.OK})
	safe(t, "names", d, "a", "xy")
	d.Sync("a")
	safe(t, "both", d, "a", "xyz")
	d.Create("b")
	d.Rename("a", "c")
	safe(t, "names later", d, "a", "xyz")
	d.Append("c", "!")
	d.Sync("c")
	safe(t, "bytes under another name", d, "a", "xyz!")
	d.Fail(0)
	want(t, "failing", []api.Errno{d.Sync("a"), d.SyncNames()}, []api.Errno{api.ErrNone, api.ErrIO})
	safe(t, "failed", d, "a", "xyz!")
	d.SyncNames()
	safe(t, "names again", d, "b", "", "c", "xyz!")
	d.Append("c", "?")
	d.Fail(0)
	want(t, "failing", []api.Errno{d.Sync("c")}, []api.Errno{api.ErrIO})
	safe(t, "failed", d, "b", "", "c", "xyz!")
}

// P5.1: Rename and Remove, their errors in their order.
func TestRename(t *testing.T) {
	d := filled(100, "a", "1", "b", "2", "c", "3")
	want(t, "Rename", []api.Errno{d.Rename("z", ""), d.Rename("", ""), d.Rename("z", "z"), d.Rename("a", ""), d.Rename("a", "a"), d.Rename("a", "b"), d.Rename("a", "x"), d.Rename("c", "a")},
		[]api.Errno{api.ErrNone, api.ErrNone, api.ErrNone, api.ErrArg, api.ErrArg, api.OK, api.ErrNone, api.OK})
	holds(t, "Rename", d, "a", "3", "b", "1")
	want(t, "Remove", []api.Errno{d.Remove("c"), d.Remove(""), d.Remove("b"), d.Remove("b")}, []api.Errno{api.ErrNone, api.ErrNone, api.OK, api.ErrNone})
	holds(t, "Remove", d, "a", "3")
	safe(t, "Remove", d, "a", "1", "b", "2", "c", "3")
	d.Fail(0)
	want(t, "failing", []api.Errno{d.Rename("b", "x"), d.Rename("a", "a"), d.Rename("a", "x"), d.Rename("a", "x")}, []api.Errno{api.ErrNone, api.ErrArg, api.ErrIO, api.OK})
	d.Fail(0)
	want(t, "failing", []api.Errno{d.Remove("a"), d.Remove("x"), d.Remove("x")}, []api.Errno{api.ErrNone, api.ErrIO, api.OK})
	holds(t, "nothing left", d)
}

// P5.1: space is used by files with a name, a safe name, or a name in a change that is not safe.
func TestFree(t *testing.T) {
	d := disk.New(10)
	free := func(name string, want int) {
		t.Helper()
		if d.Free() != want {
			t.Errorf("%s: Free %d, want %d", name, d.Free(), want)
		}
	}
	d.Create("a")
	d.Append("a", "1234")
	free("a", 6)
	d.Remove("a")
	free("its name in changes", 6)
	d.SyncNames()
	free("removed", 10)
	d.Create("a")
	d.Append("a", "1234")
	d.SyncNames()
	d.Create("b")
	d.Append("b", "12")
	d.Sync("b")
	d.Rename("b", "a")
	free("replaced, with a safe name", 4)
	d.SyncNames()
	free("replaced", 8)
	d.Create("c")
	d.Append("c", "123")
	d.Rename("c", "d")
	d.Rename("d", "a")
	d.Remove("a")
	free("names in changes", 5)
	d.Restart([]int{2})
	free("a and d", 8)
	holds(t, "a and d", d, "a", "12", "d", "")
}

// P5.1: a Restart that undoes changes of names brings the files back with their bytes, and frees the others.
func TestFreeAfterRestart(t *testing.T) {
	d := filled(10, "a", "1234", "b", "12")
	d.Rename("b", "a")
	d.Remove("a")
	d.Create("c")
	d.Append("c", "7")
	if d.Free() != 3 {
		t.Errorf("Free %d, want 3", d.Free())
	}
	d.Restart(nil)
	holds(t, "Restart", d, "a", "1234", "b", "12")
	if d.Free() != 4 {
		t.Errorf("Free %d, want 4", d.Free())
	}
	d.Remove("b")
	d.SyncNames()
	if d.Free() != 6 {
		t.Errorf("Free %d, want 6", d.Free())
	}
	holds(t, "Remove", d, "a", "1234")
}

// P5.1: Room changes the capacity at any time; Free is not below 0.
func TestRoom(t *testing.T) {
	d := filled(10, "a", "1234")
	for room, free := range map[int]int{math.MinInt: 0, -1: 0, 0: 0, 3: 0, 4: 0, 5: 1, math.MaxInt: math.MaxInt - 4} {
		d.Room(room)
		if d.Free() != free {
			t.Errorf("Room(%d): Free %d, want %d", room, d.Free(), free)
		}
	}
	d.Room(2)
	want(t, "full", []api.Errno{d.Append("a", "x"), d.Append("a", "")}, []api.Errno{api.ErrFull, api.OK})
	d.Room(5)
	want(t, "room", []api.Errno{d.Append("a", "xy"), d.Append("a", "x")}, []api.Errno{api.ErrFull, api.OK})
	holds(t, "room", d, "a", "1234x")
}

// changing: each of the calls that change something, on a disk with a file a.
var changing = []struct {
	name string
	call func(d *disk.Disk) api.Errno
}{
	{"Create", func(d *disk.Disk) api.Errno { return d.Create("b") }},
	{"Append", func(d *disk.Disk) api.Errno { return d.Append("a", "+") }},
	{"Append nothing", func(d *disk.Disk) api.Errno { return d.Append("a", "") }},
	{"Sync", func(d *disk.Disk) api.Errno { return d.Sync("a") }},
	{"SyncNames", func(d *disk.Disk) api.Errno { return d.SyncNames() }},
	{"Rename", func(d *disk.Disk) api.Errno { return d.Rename("a", "b") }},
	{"Remove", func(d *disk.Disk) api.Errno { return d.Remove("a") }},
}

// P5.1: every changing call counts, fails and stops.
func TestChanging(t *testing.T) {
	for _, c := range changing {
		d := filled(100, "a", "1")
		d.Append("a", "2")
		n := d.Calls()
		d.Fail(0)
		if e := c.call(d); e != api.ErrIO || d.Calls() != n || d.Free() != 98 {
			t.Errorf("%s, failing: %d, Calls %d, Free %d", c.name, e, d.Calls(), d.Free())
		}
		holds(t, c.name+", failing", d, "a", "12")
		safe(t, c.name+", failing", d, "a", "1")
		if e := c.call(d); e != api.OK || d.Calls() != n+1 {
			t.Errorf("%s: %d, Calls %d", c.name, e, d.Calls())
		}
		d = filled(100, "a", "1")
		d.Append("a", "2")
		n = d.Calls()
		d.Crash(0)
		if e := c.call(d); e != api.ErrDead || d.Calls() != n || !d.Dead() {
			t.Errorf("%s, stopping: %d, Calls %d, Dead %v", c.name, e, d.Calls(), d.Dead())
		}
		safe(t, c.name+", stopping", d, "a", "1")
	}
}

// P5.1: the call at which everything stops takes effect, but makes nothing safe.
func TestStop(t *testing.T) {
	for i, list := range [][]string{{"a", "12", "b", ""}, {"a", "12+"}, {"a", "12"}, {"a", "12"}, {"a", "12"}, {"b", "12"}, nil} {
		d := filled(100, "a", "1")
		d.Append("a", "2")
		d.Crash(0)
		changing[i].call(d)
		// -1 keeps as much as possible.
		d.Restart([]int{-1, -1})
		holds(t, changing[i].name, d, list...)
		d = filled(100, "a", "1")
		d.Append("a", "2")
		d.Crash(0)
		changing[i].call(d)
		d.Restart(nil)
		holds(t, changing[i].name+", nothing kept", d, "a", "1")
	}
	d := filled(100)
	d.Create("x")
	d.Crash(0)
	d.SyncNames()
	safe(t, "SyncNames", d)
	d.Restart(nil)
	holds(t, "SyncNames", d)
}

// P5.1: when everything has stopped, each call that returns an error returns ErrDead, whatever else applies, until Restart.
func TestDead(t *testing.T) {
	d := filled(5, "a", "1")
	d.Crash(0)
	d.Sync("a")
	for _, c := range changing {
		if e := c.call(d); e != api.ErrDead {
			t.Errorf("%s: %d", c.name, e)
		}
	}
	want(t, "dead", []api.Errno{d.Create(""), d.Create("a"), d.Append("z", ""), d.Append("a", "123456"), d.Sync("z"), d.Rename("z", ""), d.Rename("a", ""), d.Remove("z")},
		slices.Repeat([]api.Errno{api.ErrDead}, 8))
	if s, e := d.Read("a"); s != "" || e != api.ErrDead {
		t.Errorf("Read: %q, %d", s, e)
	}
	if l, e := d.Names(); len(l) != 0 || e != api.ErrDead {
		t.Errorf("Names: %q, %d", l, e)
	}
	safe(t, "dead", d, "a", "1")
	d.Crash(-1)
	d.Fail(0)
	if !d.Dead() || d.Free() != 4 || d.Create("b") != api.ErrDead {
		t.Errorf("Dead %v, Free %d", d.Dead(), d.Free())
	}
	d.Restart(nil)
	if d.Dead() || d.Create("b") != api.OK {
		t.Errorf("Restart: Dead %v", d.Dead())
	}
}

// P5.1: n more changing calls succeed before a crash or a failure; others do not count; below 0 nothing is armed.
func TestArmed(t *testing.T) {
	for n := range 5 {
		d := filled(100, "a", "")
		d.Crash(n)
		for range n {
			want(t, "before", []api.Errno{d.Append("z", ""), d.Create("a"), d.Append("a", "x")}, []api.Errno{api.ErrNone, api.ErrThere, api.OK})
		}
		if e := d.Append("a", "x"); e != api.ErrDead {
			t.Errorf("Crash(%d): %d", n, e)
		}
		d = filled(100, "a", "")
		d.Fail(n)
		for range n {
			want(t, "before", []api.Errno{d.Append("z", ""), d.Create("a"), d.Append("a", "x")}, []api.Errno{api.ErrNone, api.ErrThere, api.OK})
		}
		if e := d.Append("a", "x"); e != api.ErrIO {
			t.Errorf("Fail(%d): %d", n, e)
		}
		for range 10 {
			if e := d.Append("a", "x"); e != api.OK {
				t.Errorf("after Fail(%d): %d", n, e)
			}
		}
	}
	for _, n := range []int{-1, -2, math.MinInt, math.MaxInt, 20} {
		d := filled(100, "a", "")
		d.Crash(0)
		d.Fail(0)
		d.Crash(n)
		d.Fail(n)
		for range 20 {
			if e := d.Append("a", "x"); e != api.OK {
				t.Fatalf("armed with %d: %d", n, e)
			}
		}
	}
}

// P5.1: a call that fails is not counted for the crash; a Restart disarms both.
func TestBothArmed(t *testing.T) {
	d := filled(100, "a", "")
	d.Crash(2)
	d.Fail(1)
	for i, e := range []api.Errno{api.OK, api.ErrIO, api.OK, api.ErrDead} {
		if got := d.Append("a", "x"); got != e {
			t.Errorf("call %d: %d, want %d", i, got, e)
		}
	}
	d.Restart([]int{0, 3})
	d.Crash(0)
	d.Fail(0)
	want(t, "both at once", []api.Errno{d.Append("a", "x"), d.Append("a", "x")}, []api.Errno{api.ErrIO, api.ErrDead})
	d.Restart([]int{0, 1})
	holds(t, "both", d, "a", "xxxx")
	d.Crash(0)
	d.Fail(1)
	d.Restart(nil)
	for range 5 {
		if e := d.Append("a", "x"); e != api.OK {
			t.Errorf("disarmed: %d", e)
		}
	}
	if d.Calls() != 4+3+5-1 {
		t.Errorf("Calls: %d", d.Calls())
	}
}

// P5.1: Restart takes the numbers of choice in their order, and reduces them.
func TestRestart(t *testing.T) {
	fresh := func() *disk.Disk {
		d := disk.New(100)
		d.Create("b")
		d.Create("a")
		d.Create("c")
		d.Append("a", "AAA")
		d.Append("b", "BB")
		d.Append("c", "C")
		d.Sync("c")
		d.Remove("b")
		d.Create("d")
		d.Append("d", "DDDD")
		return d
	}
	for _, c := range []struct {
		choice []int
		want   []string
	}{
		{nil, nil},
		{[]int{6, 9}, nil},
		{[]int{1, 2}, []string{"b", "BB"}},
		{[]int{2, 1, 2}, []string{"a", "AA", "b", "B"}},
		{[]int{3, 4, 7}, []string{"a", "AAA", "b", "B", "c", "C"}},
		{[]int{4, 1, 3}, []string{"a", "A", "c", "C"}},
		{[]int{5, 2, 6, 3}, []string{"a", "AA", "c", "C", "d", "D"}},
		{[]int{-1, -1, -1}, []string{"a", "AAA", "c", "C", "d", "DDDD"}},
		{[]int{-6, 1}, nil},
		{[]int{-7, -2, -4}, []string{"a", "AA", "c", "C", "d", "D"}},
		{[]int{11, 2}, []string{"a", "AA", "c", "C", "d", ""}},
		{[]int{5, math.MaxInt, math.MinInt}, []string{"a", strings.Repeat("A", reduced(math.MaxInt, 3)), "c", "C", "d", strings.Repeat("D", reduced(math.MinInt, 4))}},
	} {
		d := fresh()
		given := slices.Clone(c.choice)
		d.Restart(c.choice)
		holds(t, "Restart", d, c.want...)
		safe(t, "all safe", d, c.want...)
		if !slices.Equal(given, c.choice) {
			t.Errorf("the argument changed")
		}
		d.Restart([]int{3, 3, 3, 3})
		holds(t, "again", d, c.want...)
	}
	for _, n := range []int{math.MinInt, math.MinInt + 1, math.MaxInt} {
		a, b := fresh(), fresh()
		a.Restart([]int{n})
		b.Restart([]int{reduced(n, 5)})
		names, _ := a.Names()
		want, _ := b.Names()
		if !slices.Equal(names, want) {
			t.Errorf("Restart(%d): %q, want %q", n, names, want)
		}
	}
}

// P5.1: the order of Restart is that in which the files were created, whatever their names are now.
func TestRestartOrder(t *testing.T) {
	d := disk.New(100)
	d.Create("c")
	d.Create("a")
	d.Append("a", "22")
	d.Append("c", "11")
	d.Rename("c", "x")
	d.Rename("a", "c")
	d.Rename("x", "a")
	d.SyncNames()
	d.Restart([]int{9, 1, 0})
	holds(t, "order", d, "a", "1", "c", "")
	d.Create("0")
	d.Append("0", "33")
	d.Append("c", "22")
	d.SyncNames()
	d.Restart([]int{9, 1, 2})
	holds(t, "order afterwards", d, "0", "33", "a", "1", "c", "2")
}

// P5.1: the example of the chapter.
func TestExample(t *testing.T) {
	d := disk.New(100)
	d.Create("a")
	d.Append("a", "xy")
	d.SyncNames()
	d.Restart([]int{0, 1})
	holds(t, "a", d, "a", "x")
	d.Create("b")
	d.Restart(nil)
	holds(t, "none kept", d, "a", "x")
	d.Create("b")
	d.Restart([]int{1})
	holds(t, "one kept", d, "a", "x", "b", "")
}

// P5.1 and K3: results are new memory.
func TestResults(t *testing.T) {
	d := filled(100, "a", "1", "b", "2")
	names, _ := d.Names()
	kept, texts := d.Safe()
	names[0], kept[0], texts[0] = "x", "y", "z"
	holds(t, "Names", d, "a", "1", "b", "2")
	safe(t, "Safe", d, "a", "1", "b", "2")
	s, _ := d.Read("a")
	_, old := d.Safe()
	d.Append("a", "x")
	d.Restart(nil)
	d.Append("a", "y")
	if s != "1" || old[0] != "1" {
		t.Errorf("Read: %q, Safe: %q", s, old)
	}
}

// pair is a disk, and the model that does the same.
type pair struct {
	d *disk.Disk
	m *model
}

// step does the same call on both.
func (p pair) step(r *rand.Rand) (api.Errno, api.Errno) {
	names := []string{"a", "b", "c", "dd", ""}
	name, other := names[r.Intn(5)], names[r.Intn(5)]
	text := strings.Repeat(string(rune('a'+r.Intn(26))), r.Intn(6))
	switch r.Intn(14) {
	case 0, 1, 2:
		return p.d.Create(name), p.m.create(name)
	case 3, 4, 5:
		return p.d.Append(name, text), p.m.add(name, text)
	case 6:
		return p.d.Sync(name), p.m.sync(name)
	case 7:
		return p.d.SyncNames(), p.m.syncNames()
	case 8, 9:
		return p.d.Rename(name, other), p.m.rename(name, other)
	case 10:
		return p.d.Remove(name), p.m.remove(name)
	case 11:
		n := r.Intn(20) - 2
		p.d.Crash(n)
		p.m.crash = n
	case 12:
		n := r.Intn(20) - 2
		p.d.Fail(n)
		p.m.failure = n
	default:
		p.rare(r)
	}
	return api.OK, api.OK
}

// rare does what would otherwise hide too much of the rest.
func (p pair) rare(r *rand.Rand) {
	if r.Intn(2) == 0 {
		n := r.Intn(30) - 2
		p.d.Room(n)
		p.m.room = max(n, 0)
		return
	}
	var choice []int
	for range r.Intn(5) {
		choice = append(choice, r.Intn(30)-10)
	}
	p.d.Restart(choice)
	p.m.restart(choice)
}

// compare checks everything that can be asked.
func (p pair) compare(t *testing.T) {
	t.Helper()
	names, e := p.d.Names()
	want, f := p.m.list()
	if e != f || !slices.Equal(names, want) {
		t.Fatalf("Names: %q, %d, want %q, %d", names, e, want, f)
	}
	for _, n := range []string{"a", "b", "c", "dd", ""} {
		s, e := p.d.Read(n)
		want, f := p.m.read(n)
		if s != want || e != f {
			t.Fatalf("Read %q: %q, %d, want %q, %d", n, s, e, want, f)
		}
	}
	names, texts := p.d.Safe()
	wantNames, wantTexts := p.m.safeFiles()
	if !slices.Equal(names, wantNames) || !slices.Equal(texts, wantTexts) {
		t.Fatalf("Safe: %q %q, want %q %q", names, texts, wantNames, wantTexts)
	}
	if p.d.Free() != p.m.free() || p.d.Dead() != p.m.dead || p.d.Calls() != p.m.calls {
		t.Fatalf("Free %d, Dead %v, Calls %d, want %d, %v, %d", p.d.Free(), p.d.Dead(), p.d.Calls(), p.m.free(), p.m.dead, p.m.calls)
	}
}

// P5.1: any sequence of calls, against a slow disk.
func TestAnySequence(t *testing.T) {
	for seed := range int64(3000) {
		r := rand.New(rand.NewSource(seed))
		room := r.Intn(60)
		p := pair{disk.New(room), newModel(room)}
		for i := range 80 {
			got, want := p.step(r)
			if got != want {
				t.Fatalf("seed %d, call %d: %d, want %d", seed, i, got, want)
			}
			p.compare(t)
		}
	}
}

// written makes files, and says which bytes were appended to each, also when everything stopped at it.
func written(d *disk.Disk, r *rand.Rand) map[string]string {
	texts := map[string]string{}
	for range 40 {
		name := string(rune('a' + r.Intn(4)))
		text := strings.Repeat(string(rune('a'+r.Intn(26))), r.Intn(6))
		before := d.Dead()
		switch r.Intn(5) {
		case 0:
			d.Create(name)
		case 1, 2:
			if e := d.Append(name, text); e == api.OK || e == api.ErrDead && !before {
				texts[name] += text
			}
		case 3:
			d.Sync(name)
		case 4:
			d.SyncNames()
		}
	}
	return texts
}

// P5.2: what is safe survives any Restart; apart from that, only what was done can be there.
func TestSafeSurvives(t *testing.T) {
	for seed := range int64(2000) {
		r := rand.New(rand.NewSource(seed))
		d := disk.New(1000)
		d.Crash(r.Intn(60) - 10)
		done := written(d, r)
		names, texts := d.Safe()
		d.Restart([]int{r.Intn(9), r.Intn(9), r.Intn(9), r.Intn(9), r.Intn(9)})
		for i, n := range names {
			if s, e := d.Read(n); e != api.OK || !strings.HasPrefix(s, texts[i]) {
				t.Fatalf("seed %d: %q has %q, %d, without the safe %q", seed, n, s, e, texts[i])
			}
		}
		after, _ := d.Names()
		for _, n := range after {
			if s, _ := d.Read(n); !strings.HasPrefix(done[n], s) {
				t.Fatalf("seed %d: %q has %q, not the beginning of %q", seed, n, s, done[n])
			}
		}
	}
}

// P5.2: without any choice exactly the safe files are left.
func TestNothingKept(t *testing.T) {
	for seed := range int64(2000) {
		r := rand.New(rand.NewSource(seed))
		p := pair{disk.New(100), newModel(100)}
		for range 40 {
			p.step(r)
		}
		names, texts := p.d.Safe()
		p.d.Restart(nil)
		var want []string
		for i, n := range names {
			want = append(want, n, texts[i])
		}
		holds(t, "nothing kept", p.d, want...)
	}
}
