package litmus_test

import (
	"math"
	"math/rand"
	"slices"
	"strings"
	"testing"

	"ordeal/api"
	"ordeal/litmus"
)

func num(n uint64) litmus.Arg { return litmus.Arg{N: n} }

func reg(n uint64) litmus.Arg { return litmus.Arg{Reg: true, N: n} }

// named is locations with these names.
func named(names ...string) []litmus.Init {
	var list []litmus.Init
	for _, name := range names {
		list = append(list, litmus.Init{Name: name})
	}
	return list
}

// passing is the message-passing test.
func passing() litmus.Test {
	return litmus.Test{
		Locs: named("x", "y"),
		Threads: [][]litmus.Instr{
			{{Op: litmus.Store, A: num(1)}, {Op: litmus.Store, Loc: 1, A: num(1)}},
			{{Op: litmus.Load, Loc: 1}, {Op: litmus.Load, Rd: 1}},
		},
	}
}

// alone is a test of one thread of these instructions, with eight locations.
func alone(list ...litmus.Instr) litmus.Test {
	return litmus.Test{Locs: named("a", "b", "c", "d", "e", "f", "g", "h"), Threads: [][]litmus.Instr{list}}
}

// asking is a test with two locations and two threads, with these atoms.
func asking(list ...litmus.Atom) litmus.Test {
	x := passing()
	x.Asks = list
	return x
}

// full is one valid instruction of each Op, with all fields set that it may have; two more follow Beq and Bne.
func full() []litmus.Instr {
	return []litmus.Instr{
		{Op: litmus.Li, Rd: 7, A: num(math.MaxUint64)},
		{Op: litmus.Add, Rd: 1, A: reg(7), B: num(math.MaxUint64)},
		{Op: litmus.Sub, Rd: 2, A: num(9), B: reg(7)},
		{Op: litmus.Xor, Rd: 3, A: reg(1), B: reg(2)},
		{Op: litmus.And, Rd: 4, A: num(8), B: num(8)},
		{Op: litmus.Or, Rd: 5, A: reg(3), B: reg(3)},
		{Op: litmus.Shl, Rd: 6, A: reg(1), B: num(64)},
		{Op: litmus.Shr, Rd: 7, A: reg(1), B: num(64)},
		{Op: litmus.Load, Rd: 7, Loc: 7, Acq: true, Dep: 8},
		{Op: litmus.Store, Loc: 7, A: reg(7), Rel: true, Dep: 8},
		{Op: litmus.Swap, Rd: 7, Loc: 7, A: num(8), Acq: true, Rel: true, Dep: 8},
		{Op: litmus.Amo, Rd: 7, Loc: 7, A: reg(7), Acq: true, Rel: true, Dep: 8},
		{Op: litmus.Lr, Rd: 7, Loc: 7, Acq: true, Dep: 8},
		{Op: litmus.Sc, Rd: 7, Loc: 7, A: reg(7), Rel: true, Dep: 8},
		{Op: litmus.Fence, Pred: 3, Succ: 3},
		{Op: litmus.Beq, A: reg(7), B: num(8), Skip: 2},
		{Op: litmus.Bne, A: num(8), B: reg(7), Skip: 2},
	}
}

// check checks the error of a test.
func check(t *testing.T, name string, x litmus.Test, want api.Errno) {
	t.Helper()
	if e := x.Check(); e != want {
		t.Errorf("%s: %d, want %d", name, e, want)
	}
}

// P8.1: the numbers of the Ops and sides, as the chapter lists them.
func TestNumbers(t *testing.T) {
	ops := []int{litmus.Li, litmus.Add, litmus.Sub, litmus.Xor, litmus.And, litmus.Or, litmus.Shl, litmus.Shr, litmus.Load, litmus.Store, litmus.Swap, litmus.Amo, litmus.Lr, litmus.Sc, litmus.Fence, litmus.Beq, litmus.Bne}
	for i, op := range ops {
		if op != i+1 {
			t.Errorf("Op %d is %d", i+1, op)
		}
	}
	if litmus.Last != len(ops) || litmus.Reads != 1 || litmus.Writes != 2 {
		t.Errorf("Last %d, Reads %d, Writes %d", litmus.Last, litmus.Reads, litmus.Writes)
	}
}

// P8.1: the example of the chapter.
func TestExample(t *testing.T) {
	x := passing()
	check(t, "message passing", x, api.OK)
	if x.Events() != 4 || !slices.Equal(x.Regs(1), []int{0, 1}) || len(x.Regs(0)) != 0 || x.HasPairs() {
		t.Errorf("Events %d, Regs %v %v, HasPairs %v", x.Events(), x.Regs(0), x.Regs(1), x.HasPairs())
	}
}

// P8.1: Of, IsMemory and Sets, for each Op and for none.
func TestKinds(t *testing.T) {
	for op := -2; op < 21; op++ {
		is := func(list ...int) bool { return slices.Contains(list, op) }
		reads := is(litmus.Load, litmus.Lr, litmus.Swap, litmus.Amo)
		writes := is(litmus.Store, litmus.Sc, litmus.Swap, litmus.Amo)
		sets := op >= 1 && op <= 17 && !is(litmus.Store, litmus.Fence, litmus.Beq, litmus.Bne)
		x := litmus.Instr{Op: op, Acq: true, Rel: true, Pred: 3, Succ: 3}
		if x.Of() != (litmus.Kind{Reads: reads, Writes: writes}) || x.IsMemory() != (reads || writes) || x.Sets() != sets {
			t.Errorf("Op %d: Of %v, IsMemory %v, Sets %v", op, x.Of(), x.IsMemory(), x.Sets())
		}
	}
}

// P8.1: Events counts what reads and what writes, in any test.
func TestEvents(t *testing.T) {
	events := func(list ...[]litmus.Instr) int {
		x := litmus.Test{Threads: list}
		return x.Events()
	}
	if events() != 0 || events(nil, nil) != 0 {
		t.Errorf("nothing: %d, %d", events(), events(nil, nil))
	}
	for _, x := range full() {
		want := map[int]int{litmus.Load: 1, litmus.Store: 1, litmus.Swap: 2, litmus.Amo: 2, litmus.Lr: 1, litmus.Sc: 1}[x.Op]
		if n := events([]litmus.Instr{x}); n != want {
			t.Errorf("Op %d: %d events, want %d", x.Op, n, want)
		}
	}
	if n := events(full(), nil, full()); n != 16 {
		t.Errorf("all twice: %d", n)
	}
	if n := events([]litmus.Instr{{Op: 18}, {Op: 0}, {Op: -1}, {Op: litmus.Load, Loc: 99, Rd: -1}}, make([]litmus.Instr, 100)); n != 1 {
		t.Errorf("an invalid test: %d", n)
	}
}

// P8.1: HasPairs looks for Lr and Sc, in each thread.
func TestHasPairs(t *testing.T) {
	for _, x := range full() {
		test := litmus.Test{Threads: [][]litmus.Instr{nil, {{Op: litmus.Li}, x}, {{Op: litmus.Li}}}}
		if want := x.Op == litmus.Lr || x.Op == litmus.Sc; test.HasPairs() != want {
			t.Errorf("Op %d: %v", x.Op, !want)
		}
	}
	if x := (litmus.Test{}); x.HasPairs() {
		t.Error("nothing")
	}
}

// P8.1: Regs are in ascending order, each once; without such a thread there is none.
func TestRegs(t *testing.T) {
	x := litmus.Test{Locs: named("x"), Threads: [][]litmus.Instr{
		{{Op: litmus.Li, Rd: 7}, {Op: litmus.Load, Rd: 3}, {Op: litmus.Swap, Rd: 5}, {Op: litmus.Add, Rd: 3, A: reg(1), B: reg(2)}, {Op: litmus.Sc, Rd: 0}, {Op: litmus.Lr, Rd: 7}},
		{{Op: litmus.Store, A: reg(4), Dep: 3}, {Op: litmus.Fence, Pred: 1, Succ: 1}, {Op: litmus.Beq}, {Op: litmus.Bne}},
		nil,
	}}
	check(t, "Regs", x, api.OK)
	for thread, want := range map[int][]int{0: {0, 3, 5, 7}, 1: nil, 2: nil, 3: nil, -1: nil, math.MinInt: nil, math.MaxInt: nil} {
		if got := x.Regs(thread); !slices.Equal(got, want) {
			t.Errorf("Regs(%d): %v, want %v", thread, got, want)
		}
	}
	x.Regs(0)[0] = 9
	if got := x.Regs(0); got[0] != 0 {
		t.Errorf("the result is shared: %v", got)
	}
	for _, x := range full() {
		test := alone(x)
		if got := test.Regs(0); x.Sets() != slices.Equal(got, []int{x.Rd}) || x.Sets() == (len(got) == 0) {
			t.Errorf("Op %d: %v", x.Op, got)
		}
	}
}

// P8.1: what is a name.
func TestName(t *testing.T) {
	for _, s := range []string{"a", "z", "r", "ra", "r10", "r00", "rr", "r1a", "ar1", "s1", "x0", "lock", "q1", "thread", "abcdefghijklmnop", "r234567890123456"} {
		if !litmus.Name(s) {
			t.Errorf("%q is a name", s)
		}
	}
	for n := range 10 {
		if s := "r" + string(rune('0'+n)); litmus.Name(s) {
			t.Errorf("%q is no name", s)
		}
	}
	for _, s := range []string{"", "abcdefghijklmnopq", strings.Repeat("a", 1000), "1", "1x", "0", "X", "xY", "Xy", "x y", " x", "x ", "x_", "x-1", "x\x00", "\xff", "x\xff", "x\n", "é", "xé", "r\xb2", "`", "{", "a`", "a{", "a/", "a:"} {
		if litmus.Name(s) {
			t.Errorf("%q is no name", s)
		}
	}
}

// P8.1: every Op is valid with all fields that it may have, and with none of those that it need not have.
func TestValid(t *testing.T) {
	nothing := litmus.Instr{Op: litmus.Li}
	for _, x := range full() {
		check(t, "full", alone(x, nothing, nothing), api.OK)
		bare := litmus.Instr{Op: x.Op, Pred: min(x.Pred, 1), Succ: min(x.Succ, 2)}
		check(t, "bare", alone(bare), api.OK)
	}
	check(t, "a thread without instructions", litmus.Test{Threads: make([][]litmus.Instr, 4)}, api.OK)
	check(t, "eight of everything", litmus.Test{Locs: named("a", "b", "c", "d", "e", "f", "g", "h"), Threads: [][]litmus.Instr{slices.Repeat([]litmus.Instr{{Op: litmus.Load}}, 8), make8(), make8(), make8()}, Asks: allAtoms(4, 8)}, api.OK)
}

// make8 is a thread of eight instructions without events.
func make8() []litmus.Instr {
	return slices.Repeat([]litmus.Instr{{Op: litmus.Li}}, 8)
}

// allAtoms asks for everything.
func allAtoms(threads, locs int) []litmus.Atom {
	var list []litmus.Atom
	for thread := range threads {
		for at := range api.MaxRegs {
			list = append(list, litmus.Atom{Thread: thread, At: at, V: 5})
		}
	}
	for at := range locs {
		list = append(list, litmus.Atom{Thread: -1, At: at})
	}
	return list
}

// P8.1: too little or too much of something, before anything else.
func TestSizes(t *testing.T) {
	bad := litmus.Instr{Op: 18}
	check(t, "nothing", litmus.Test{}, api.ErrEmpty)
	check(t, "no thread, too much else", litmus.Test{Locs: named("X", "", "", "", "", "", "", "", ""), Asks: make([]litmus.Atom, 41)}, api.ErrEmpty)
	x := passing()
	x.Threads = make([][]litmus.Instr, 5)
	x.Threads[0] = []litmus.Instr{bad}
	check(t, "five threads", x, api.ErrMany)
	x = passing()
	x.Locs = named("a", "b", "c", "d", "e", "f", "g", "h", "R")
	check(t, "nine locations", x, api.ErrMany)
	x = passing()
	x.Locs[0].Name = "X"
	x.Asks = append(allAtoms(4, 8), litmus.Atom{Thread: 9})
	check(t, "41 atoms", x, api.ErrMany)
	x = passing()
	x.Asks = allAtoms(4, 8)
	check(t, "40 atoms, not of this test", x, api.ErrName)
	x = passing()
	x.Locs[0].Name = "X"
	x.Threads[1] = slices.Repeat([]litmus.Instr{bad}, 9)
	check(t, "nine instructions", x, api.ErrMany)
	x.Threads[1] = slices.Repeat([]litmus.Instr{bad}, 8)
	check(t, "eight instructions", x, api.ErrName)
	load, swap := litmus.Instr{Op: litmus.Load}, litmus.Instr{Op: litmus.Swap}
	x = passing()
	x.Locs[0].Name = "X"
	x.Threads = [][]litmus.Instr{{load, load, load}, {swap}, {swap, swap}}
	check(t, "nine events", x, api.ErrMany)
	x.Threads[0] = x.Threads[0][:2]
	check(t, "eight events", x, api.ErrName)
	x.Locs[0].Name = "a"
	check(t, "eight events", x, api.OK)
}

// P8.1: locations, one by one, before the threads.
func TestLocations(t *testing.T) {
	for _, c := range []struct {
		names string
		want  api.Errno
	}{
		{"", api.OK}, {"a", api.OK}, {"a b", api.OK}, {"a a0 aa b", api.OK}, {"r r10 ra", api.OK},
		{"r1", api.ErrName}, {"X", api.ErrName}, {"a r9", api.ErrName},
		{"b a", api.ErrOrder}, {"a a", api.ErrOrder}, {"a aa a0", api.ErrOrder}, {"aa a", api.ErrOrder},
		{"b a X", api.ErrOrder}, {"b X a", api.ErrName}, {"b A", api.ErrName},
	} {
		x := litmus.Test{Locs: named(strings.Fields(c.names)...), Threads: [][]litmus.Instr{nil}}
		check(t, c.names, x, c.want)
		if c.want != api.OK {
			x.Threads = [][]litmus.Instr{{{Op: 99}}}
			check(t, c.names+", bad thread", x, c.want)
		}
	}
	x := passing()
	x.Locs[0].V, x.Locs[1].V = math.MaxUint64, 1
	check(t, "values", x, api.OK)
}

// P8.1: a field that an Op does not need is zero; there is no other Op.
func TestUnneeded(t *testing.T) {
	for _, c := range fields() {
		for _, x := range full() {
			if c.needed(x.Op) {
				continue
			}
			bad := x
			c.set(&bad)
			if bad == x {
				t.Fatalf("%s of Op %d was not changed", c.name, x.Op)
			}
			check(t, c.name, alone(bad, litmus.Instr{Op: litmus.Li}, litmus.Instr{Op: litmus.Li}), api.ErrForm)
		}
	}
	for _, op := range []int{0, -1, 18, 19, math.MinInt, math.MaxInt} {
		check(t, "no Op", alone(litmus.Instr{Op: op}), api.ErrForm)
		check(t, "no Op", alone(litmus.Instr{Op: op, Rd: 9, Loc: 9, Skip: -1}), api.ErrForm)
	}
}

// field is a field of an instruction: the Ops that need it, and a value other than zero.
type field struct {
	name string
	ops  []int
	set  func(x *litmus.Instr)
}

func (f field) needed(op int) bool { return slices.Contains(f.ops, op) }

// fields lists them as the chapter does.
func fields() []field {
	sums := []int{litmus.Add, litmus.Sub, litmus.Xor, litmus.And, litmus.Or, litmus.Shl, litmus.Shr}
	memory := []int{litmus.Load, litmus.Lr, litmus.Store, litmus.Sc, litmus.Swap, litmus.Amo}
	branches := []int{litmus.Beq, litmus.Bne}
	return []field{
		{"Rd", slices.Concat(sums, []int{litmus.Li, litmus.Load, litmus.Lr, litmus.Sc, litmus.Swap, litmus.Amo}), func(x *litmus.Instr) { x.Rd = 1 }},
		{"A", slices.Concat(sums, branches, []int{litmus.Li, litmus.Store, litmus.Sc, litmus.Swap, litmus.Amo}), func(x *litmus.Instr) { x.A = num(1) }},
		{"A, register 0", slices.Concat(sums, branches, []int{litmus.Li, litmus.Store, litmus.Sc, litmus.Swap, litmus.Amo}), func(x *litmus.Instr) { x.A = reg(0) }},
		{"B", slices.Concat(sums, branches), func(x *litmus.Instr) { x.B = num(1) }},
		{"B, register 0", slices.Concat(sums, branches), func(x *litmus.Instr) { x.B = reg(0) }},
		{"Loc", memory, func(x *litmus.Instr) { x.Loc = 1 }},
		{"Acq", memory, func(x *litmus.Instr) { x.Acq = true }},
		{"Rel", memory, func(x *litmus.Instr) { x.Rel = true }},
		{"Dep", memory, func(x *litmus.Instr) { x.Dep = 1 }},
		{"Pred", []int{litmus.Fence}, func(x *litmus.Instr) { x.Pred = 1 }},
		{"Succ", []int{litmus.Fence}, func(x *litmus.Instr) { x.Succ = 1 }},
		{"Skip", branches, func(x *litmus.Instr) { x.Skip = 1 }},
	}
}

// P8.1: values of the fields, at their borders and beyond.
func TestFields(t *testing.T) {
	for _, c := range []struct {
		name string
		x    litmus.Instr
		want api.Errno
	}{
		{"Rd 8", litmus.Instr{Op: litmus.Li, Rd: 8}, api.ErrName},
		{"Rd -1", litmus.Instr{Op: litmus.Load, Rd: -1}, api.ErrName},
		{"Rd 8 of a Sc", litmus.Instr{Op: litmus.Sc, Rd: 8}, api.ErrName},
		{"Rd 8 of a Store", litmus.Instr{Op: litmus.Store, Rd: 8}, api.ErrForm},
		{"A r8", litmus.Instr{Op: litmus.Add, A: reg(8)}, api.ErrName},
		{"A r2^64-1", litmus.Instr{Op: litmus.Store, A: reg(math.MaxUint64)}, api.ErrName},
		{"A r8 of a branch", litmus.Instr{Op: litmus.Beq, A: reg(8)}, api.ErrName},
		{"B r8", litmus.Instr{Op: litmus.Shr, B: reg(8)}, api.ErrName},
		{"B r8 of a branch", litmus.Instr{Op: litmus.Bne, B: reg(8)}, api.ErrName},
		{"Dep 9", litmus.Instr{Op: litmus.Load, Dep: 9}, api.ErrName},
		{"Dep -1", litmus.Instr{Op: litmus.Amo, Dep: -1}, api.ErrName},
		{"Loc 8", litmus.Instr{Op: litmus.Load, Loc: 8}, api.ErrName},
		{"Loc -1", litmus.Instr{Op: litmus.Store, Loc: -1}, api.ErrName},
		{"Loc MinInt", litmus.Instr{Op: litmus.Sc, Loc: math.MinInt}, api.ErrName},
		{"li r1 r7", litmus.Instr{Op: litmus.Li, Rd: 1, A: reg(7)}, api.ErrForm},
		{"li r1 r8", litmus.Instr{Op: litmus.Li, Rd: 1, A: reg(8)}, api.ErrName},
		{"Pred 0", litmus.Instr{Op: litmus.Fence, Succ: 1}, api.ErrForm},
		{"Pred 4", litmus.Instr{Op: litmus.Fence, Pred: 4, Succ: 1}, api.ErrForm},
		{"Succ 0", litmus.Instr{Op: litmus.Fence, Pred: 1}, api.ErrForm},
		{"Succ -1", litmus.Instr{Op: litmus.Fence, Pred: 1, Succ: -1}, api.ErrForm},
		{"Succ 4", litmus.Instr{Op: litmus.Fence, Pred: 1, Succ: 4}, api.ErrForm},
		{"Acq of a Store", litmus.Instr{Op: litmus.Store, Acq: true}, api.ErrForm},
		{"Acq of a Sc", litmus.Instr{Op: litmus.Sc, Acq: true}, api.ErrForm},
		{"Rel of a Load", litmus.Instr{Op: litmus.Load, Rel: true}, api.ErrForm},
		{"Rel of a Lr", litmus.Instr{Op: litmus.Lr, Rel: true}, api.ErrForm},
		{"Acq of a Store nowhere", litmus.Instr{Op: litmus.Store, Acq: true, Loc: 8}, api.ErrName},
		{"Rel of a Load to r8", litmus.Instr{Op: litmus.Load, Rel: true, Rd: 8}, api.ErrName},
		{"Acq of an Add to r8", litmus.Instr{Op: litmus.Add, Acq: true, Rd: 8}, api.ErrForm},
		{"Skip 1", litmus.Instr{Op: litmus.Beq, Skip: 1}, api.ErrSkip},
		{"Skip -1", litmus.Instr{Op: litmus.Bne, Skip: -1}, api.ErrSkip},
		{"Skip MaxInt", litmus.Instr{Op: litmus.Bne, Skip: math.MaxInt}, api.ErrSkip},
		{"Skip 1, A r8", litmus.Instr{Op: litmus.Bne, A: reg(8), Skip: 1}, api.ErrName},
	} {
		check(t, c.name, alone(c.x), c.want)
		check(t, c.name+", behind another", alone(litmus.Instr{Op: litmus.Li}, c.x), c.want)
	}
	skip := func(n int) litmus.Instr { return litmus.Instr{Op: litmus.Beq, Skip: n} }
	li := litmus.Instr{Op: litmus.Li}
	check(t, "Skip 2 of 2", alone(li, skip(2), li, li), api.OK)
	check(t, "Skip 3 of 2", alone(li, skip(3), li, li), api.ErrSkip)
	x := litmus.Test{Threads: [][]litmus.Instr{{skip(0)}, {li, li}}}
	check(t, "Skip 0", x, api.OK)
	x.Threads[0][0].Skip = 1
	check(t, "Skip into the next thread", x, api.ErrSkip)
	none := litmus.Test{Threads: [][]litmus.Instr{{{Op: litmus.Load}}}}
	check(t, "no location", none, api.ErrName)
}

// P8.1: the first faulty instruction counts, thread by thread, and all of them before the atoms.
func TestOrderOfErrors(t *testing.T) {
	li := litmus.Instr{Op: litmus.Li}
	form, name, skip := litmus.Instr{Op: 18}, litmus.Instr{Op: litmus.Li, Rd: 8}, litmus.Instr{Op: litmus.Beq, Skip: 9}
	for _, c := range []struct {
		threads [][]litmus.Instr
		want    api.Errno
	}{
		{[][]litmus.Instr{{form, name}, {skip}}, api.ErrForm},
		{[][]litmus.Instr{{name, form}, {skip}}, api.ErrName},
		{[][]litmus.Instr{{li, skip, form}, {name}}, api.ErrSkip},
		{[][]litmus.Instr{nil, {li, name}, {form}}, api.ErrName},
		{[][]litmus.Instr{{li}, nil, {skip, form}}, api.ErrSkip},
	} {
		check(t, "threads", litmus.Test{Threads: c.threads, Asks: []litmus.Atom{{Thread: 7}}}, c.want)
	}
}

// P8.1: atoms ask for what there is, in strictly ascending order, whatever their values.
func TestAtoms(t *testing.T) {
	atom := func(thread, at int) litmus.Atom { return litmus.Atom{Thread: thread, At: at} }
	for _, c := range []struct {
		name string
		asks []litmus.Atom
		want api.Errno
	}{
		{"all", allAtoms(2, 2), api.OK},
		{"some", []litmus.Atom{atom(0, 7), atom(1, 0), atom(1, 3), atom(-1, 1)}, api.OK},
		{"values", []litmus.Atom{{Thread: 0, At: 0, V: math.MaxUint64}, {Thread: 0, At: 1, V: 3}, {Thread: -1, At: 0, V: 2}}, api.OK},
		{"no thread", []litmus.Atom{atom(2, 0)}, api.ErrName},
		{"thread -2", []litmus.Atom{atom(-2, 0)}, api.ErrName},
		{"thread MinInt", []litmus.Atom{atom(math.MinInt, 0)}, api.ErrName},
		{"register 8", []litmus.Atom{atom(0, 8)}, api.ErrName},
		{"register -1", []litmus.Atom{atom(1, -1)}, api.ErrName},
		{"location 2", []litmus.Atom{atom(-1, 2)}, api.ErrName},
		{"location -1", []litmus.Atom{atom(-1, -1)}, api.ErrName},
		{"registers", []litmus.Atom{atom(0, 1), atom(0, 0)}, api.ErrOrder},
		{"threads", []litmus.Atom{atom(1, 0), atom(0, 1)}, api.ErrOrder},
		{"locations", []litmus.Atom{atom(-1, 1), atom(-1, 0)}, api.ErrOrder},
		{"a location before a thread", []litmus.Atom{atom(-1, 0), atom(1, 1)}, api.ErrOrder},
		{"twice", []litmus.Atom{atom(1, 1), atom(1, 1)}, api.ErrOrder},
		{"twice, other values", []litmus.Atom{{Thread: 1, V: 1}, {Thread: 1, V: 2}}, api.ErrOrder},
		{"a location twice", []litmus.Atom{atom(-1, 1), atom(-1, 1)}, api.ErrOrder},
		{"name, then order", []litmus.Atom{atom(1, 0), atom(5, 0), atom(0, 0)}, api.ErrName},
		{"order, then name", []litmus.Atom{atom(1, 0), atom(0, 0), atom(5, 0)}, api.ErrOrder},
		{"name and order", []litmus.Atom{atom(1, 0), atom(0, 8)}, api.ErrName},
	} {
		check(t, c.name, asking(c.asks...), c.want)
	}
	check(t, "a register that no instruction sets", asking(atom(0, 5)), api.OK)
	check(t, "a location of none", litmus.Test{Threads: [][]litmus.Instr{nil}, Asks: []litmus.Atom{atom(-1, 0)}}, api.ErrName)
}

// copied is a test that shares no memory with x.
func copied(x litmus.Test) litmus.Test {
	y := litmus.Test{Locs: slices.Clone(x.Locs), Asks: slices.Clone(x.Asks)}
	for _, thread := range x.Threads {
		y.Threads = append(y.Threads, slices.Clone(thread))
	}
	return y
}

// same compares all parts of two tests.
func same(x, y litmus.Test) bool {
	return slices.Equal(x.Locs, y.Locs) && slices.Equal(x.Asks, y.Asks) &&
		slices.EqualFunc(x.Threads, y.Threads, func(a, b []litmus.Instr) bool { return slices.Equal(a, b) })
}

// P8.1: Check of random tests, most of them with a fault or two, against the chapter's list; no call changes a test.
func TestAnyTest(t *testing.T) {
	r := rand.New(rand.NewSource(1))
	seen := map[api.Errno]int{}
	for range 200000 {
		x := random(r)
		before := copied(x)
		e := x.Check()
		x.Events()
		x.HasPairs()
		x.Regs(r.Intn(6) - 1)
		if want := fault(x); e != want {
			t.Fatalf("%+v: %d, want %d", x, e, want)
		}
		if !same(x, before) {
			t.Fatalf("%+v was changed to %+v", before, x)
		}
		seen[e]++
	}
	for _, e := range []api.Errno{api.OK, api.ErrEmpty, api.ErrMany, api.ErrName, api.ErrOrder, api.ErrForm, api.ErrSkip} {
		if seen[e] < 100 {
			t.Errorf("error %d was seen %d times", e, seen[e])
		}
	}
}
