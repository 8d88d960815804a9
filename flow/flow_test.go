package flow_test

import (
	"math"
	"math/rand"
	"slices"
	"strings"
	"testing"

	"ordeal/api"
	"ordeal/flow"
	"ordeal/litmus"
	"ordeal/read"
)

// no is a value that is not known.
var no = flow.Val{}

func is(v uint64) flow.Val { return flow.Val{Known: true, V: v} }

// parsed is the test with these threads, whose instructions are separated by strokes.
func parsed(t *testing.T, threads ...string) litmus.Test {
	t.Helper()
	s := ""
	for _, list := range threads {
		s += "thread\n" + strings.ReplaceAll(list, "/", "\n") + "\n"
	}
	x, n, e := read.Parse(s)
	if e != api.OK {
		t.Fatalf("%q: %d at %d", s, e, n)
	}
	return x
}

// of is the flow if the Ops read these values, and these Scs succeed.
func of(x litmus.Test, reads []flow.Val, succeed ...int) *flow.Flow {
	works := make([]bool, len(reads))
	for _, k := range succeed {
		works[k] = true
	}
	return flow.Of(&x, reads, works)
}

// check compares one part of a flow.
func check[T comparable](t *testing.T, what string, got []T, want ...T) {
	t.Helper()
	if !slices.Equal(got, want) {
		t.Errorf("%s: %v, want %v", what, got, want)
	}
}

// P13.1: the numbers of the states of an Op.
func TestNumbers(t *testing.T) {
	if flow.Open != 0 || flow.Runs != 1 || flow.LeftOut != 2 {
		t.Errorf("Open %d, Runs %d, LeftOut %d", flow.Open, flow.Runs, flow.LeftOut)
	}
}

// P13.1: Ops are all memory instructions and no others, thread by thread.
func TestOps(t *testing.T) {
	x := parsed(t,
		"li r0 1/load r1 x/add r0 r0 r1/store x r0/fence rw rw",
		"",
		"beq r0 0 0/swap r0 x 1/bne r0 0 0/amo r0 x 1",
		"lr r0 x/xor r0 r0 r0/sc r1 x 1")
	want := []flow.Op{{0, 1}, {0, 3}, {2, 1}, {2, 3}, {3, 0}, {3, 2}}
	got := flow.Ops(&x)
	check(t, "Ops", got, want...)
	clear(got)
	check(t, "Ops again", flow.Ops(&x), want...)
	x = parsed(t, "", "li r0 1/fence r r/beq 0 0 0")
	check(t, "no Ops", flow.Ops(&x))
}

// P13.1: Reckon.
func TestReckon(t *testing.T) {
	const top = math.MaxUint64
	for _, x := range []struct {
		op         int
		a, b, want uint64
	}{
		{litmus.Add, 2, 3, 5}, {litmus.Add, top, 1, 0}, {litmus.Add, top, top, top - 1},
		{litmus.Sub, 5, 3, 2}, {litmus.Sub, 3, 5, top - 1}, {litmus.Sub, 0, top, 1},
		{litmus.Xor, 6, 3, 5}, {litmus.Xor, top, 1, top - 1}, {litmus.Xor, 7, 7, 0},
		{litmus.And, 6, 3, 2}, {litmus.And, top, 1 << 63, 1 << 63},
		{litmus.Or, 6, 3, 7}, {litmus.Or, 1 << 63, 1, 1<<63 + 1},
		{litmus.Shl, 3, 4, 48}, {litmus.Shl, 3, 63, 1 << 63}, {litmus.Shl, 3, 64, 3}, {litmus.Shl, 3, 65, 6}, {litmus.Shl, 3, top, 1 << 63}, {litmus.Shl, 3, 1 << 32, 3},
		{litmus.Shr, 48, 4, 3}, {litmus.Shr, 3 << 62, 63, 1}, {litmus.Shr, 3, 64, 3}, {litmus.Shr, 3, 65, 1}, {litmus.Shr, top, top, 1}, {litmus.Shr, 3, 1 << 32, 3},
	} {
		if got := flow.Reckon(x.op, x.a, x.b); got != x.want {
			t.Errorf("Op %d of %d and %d: %d, want %d", x.op, x.a, x.b, got, x.want)
		}
	}
	r := rand.New(rand.NewSource(1))
	for range 20000 {
		op, a, b := litmus.Add+r.Intn(7), r.Uint64(), r.Uint64()>>r.Intn(64)
		if got, want := flow.Reckon(op, a, b), reckoned(op, a, b); got != want {
			t.Fatalf("Op %d of %d and %d: %d, want %d", op, a, b, got, want)
		}
	}
}

// P13.1: the example of the chapter.
func TestExample(t *testing.T) {
	x := parsed(t, "load r0 x/beq r0 1 1/store y r0")
	f := of(x, []flow.Val{is(1), no})
	check(t, "State", f.State, flow.Runs, flow.LeftOut)
	check(t, "Left", f.Left, 1<<2)
	if !f.Whole {
		t.Error("Whole")
	}
	f = of(x, []flow.Val{is(2), no})
	check(t, "State", f.State, flow.Runs, flow.Runs)
	check(t, "Write", f.Write, no, is(2))
	check(t, "Value", f.Value, 0, 1)
	check(t, "Path", f.Path, 0, 1)
	check(t, "Left", f.Left, 0)
	f = of(x, []flow.Val{no, no})
	check(t, "State", f.State, flow.Runs, flow.Open)
	if f.Whole {
		t.Error("Whole")
	}
}

// P13.1: registers are 0 at first; what is computed from values that are known is known.
func TestRegisters(t *testing.T) {
	x := parsed(t, "li r1 7/add r2 r1 1/sub r3 r0 1/xor r4 r1 2/and r5 r1 3/or r6 r1 8/shl r7 r1 r1/shr r0 r1 1", "", "add r0 r0 r0")
	f := of(x, nil)
	check(t, "Regs", f.Regs,
		[8]flow.Val{is(3), is(7), is(8), is(math.MaxUint64), is(5), is(3), is(15), is(7 << 7)},
		[8]flow.Val{is(0), is(0), is(0), is(0), is(0), is(0), is(0), is(0)},
		[8]flow.Val{is(0), is(0), is(0), is(0), is(0), is(0), is(0), is(0)})
	if !f.Whole {
		t.Error("Whole")
	}
}

// P13.1: a register depends on all Ops on which the Args depend from which it is computed, and no longer on what it depended on before.
func TestDependencies(t *testing.T) {
	reads := []flow.Val{is(1), is(2), no, no, no, no}
	for _, op := range strings.Fields("add sub xor and or shl shr") {
		x := parsed(t, "load r0 x/load r1 y/"+op+" r2 r0 r1/store z r2/store z 1 dep r2/"+op+" r0 r2 5/store z r0 dep r1")
		f := of(x, reads[:5])
		check(t, op+": Value", f.Value, 0, 0, 3, 0, 3)
		check(t, op+": Place", f.Place, 0, 0, 0, 3, 2)
		check(t, op+": Path", f.Path, 0, 0, 0, 0, 0)
	}
	x := parsed(t, "load r0 x/add r1 5 r0/store z r1/li r1 3/store z r1 dep r1/sub r0 r0 r0/store z r0")
	f := of(x, []flow.Val{is(4), no, no, no})
	check(t, "Value", f.Value, 0, 1, 0, 1)
	check(t, "Place", f.Place, 0, 0, 0, 0)
	check(t, "Write", f.Write, no, is(9), is(3), is(0))
	x = parsed(t, "load r0 x", "store x r0 dep r0")
	f = of(x, []flow.Val{is(4), no})
	check(t, "another thread's register", f.Write, no, is(0))
	check(t, "another thread's register", f.Value, 0, 0)
}

// P13.1: A and Dep are those from before an instruction sets its register, which then depends on that Op only.
func TestArgsComeFirst(t *testing.T) {
	for op, write := range map[string]flow.Val{"swap r0 x r0 dep r0": is(5), "amo r0 x r0 dep r0": is(11)} {
		x := parsed(t, "load r0 x/"+op+"/store y r0 dep r0")
		f := of(x, []flow.Val{is(5), is(6), no})
		check(t, op+": Write", f.Write, no, write, is(6))
		check(t, op+": Value", f.Value, 0, 1, 2)
		check(t, op+": Place", f.Place, 0, 1, 2)
	}
	for _, op := range []string{"load", "lr"} {
		x := parsed(t, "load r0 x/"+op+" r0 y dep r0/store y r0 dep r0")
		f := of(x, []flow.Val{is(5), is(6), no})
		check(t, op+": Write", f.Write, no, no, is(6))
		check(t, op+": Value", f.Value, 0, 0, 2)
		check(t, op+": Place", f.Place, 0, 1, 2)
	}
	x := parsed(t, "load r0 x/lr r1 y/sc r0 y r0 dep r0/store y r0 dep r0")
	f := of(x, []flow.Val{is(5), is(6), no, no}, 2)
	check(t, "sc: Write", f.Write, no, no, is(5), is(0))
	check(t, "sc: Value", f.Value, 0, 0, 1, 4)
	check(t, "sc: Place", f.Place, 0, 0, 1, 4)
}

// P13.1: what each Op writes.
func TestWrites(t *testing.T) {
	x := parsed(t, "load r0 x/store x r0/swap r1 x r0/amo r2 x r0", "lr r0 x/sc r1 x 9")
	f := of(x, []flow.Val{is(math.MaxUint64), is(1), is(2), is(3), is(4), is(5)}, 5)
	check(t, "Write", f.Write, no, is(math.MaxUint64), is(math.MaxUint64), is(2), no, is(9))
	check(t, "Regs", f.Regs[:1], [8]flow.Val{is(math.MaxUint64), is(2), is(3), is(0), is(0), is(0), is(0), is(0)})
	f = of(x, []flow.Val{no, no, no, is(3), no, no})
	check(t, "unknown A", f.Write, no, no, no, no, no, no)
	x = parsed(t, "amo r0 x 1/amo r1 x r0/amo r2 y r1")
	f = of(x, []flow.Val{no, is(2), is(3)})
	check(t, "unknown reads", f.Write, no, no, is(5))
	check(t, "Value", f.Value, 0, 1, 2)
}

// P13.1: what is computed from something unknown is unknown, whatever the other number; an unknown number is 0.
func TestUnknown(t *testing.T) {
	for _, line := range []string{"and r1 r0 0", "and r1 0 r0", "sub r1 r0 r0", "xor r1 r0 r0", "shl r1 0 r0", "shr r1 0 r0", "or r1 r0 0xffffffffffffffff", "add r1 3 r0"} {
		x := parsed(t, "load r0 x/li r1 5/"+line+"/store y r1")
		f := of(x, []flow.Val{{V: 7}, {V: 7}})
		check(t, line+": Write", f.Write, no, no)
		check(t, line+": Value", f.Value, 0, 1)
		check(t, line+": State", f.State, flow.Runs, flow.Runs)
		check(t, line+": Regs", f.Regs, [8]flow.Val{no, no, is(0), is(0), is(0), is(0), is(0), is(0)})
		if f.Whole {
			t.Errorf("%s: Whole", line)
		}
	}
	for _, line := range []string{"beq r0 r0 1", "bne r0 r0 1", "beq r0 1 1", "bne 1 r0 1", "beq 1 r0 0", "bne r0 1 0"} {
		x := parsed(t, "load r0 x/li r1 5/"+line+"/li r1 6/store y 1")
		f := of(x, []flow.Val{{V: 7}, {V: 7}})
		check(t, line+": State", f.State, flow.Runs, flow.Open)
		check(t, line+": Regs", f.Regs, [8]flow.Val{no, is(5), is(0), is(0), is(0), is(0), is(0), is(0)})
		check(t, line+": Left", f.Left, 0)
	}
}

// P13.1: a Sc that succeeds writes, and its register depends on it; one that does not is left out, and its register depends on nothing.
func TestSc(t *testing.T) {
	x := parsed(t, "load r0 y/bne r0 9 0/lr r1 x/sc r2 x r1 dep r0/store z r2 dep r2/beq r2 1 1/store z 5")
	reads := []flow.Val{is(3), is(4), is(7), no, no}
	f := of(x, reads, 2)
	check(t, "State", f.State, flow.Runs, flow.Runs, flow.Runs, flow.Runs, flow.Runs)
	check(t, "Write", f.Write, no, no, is(4), is(0), is(5))
	check(t, "Pair", f.Pair, 0, 0, 2, 0, 0)
	check(t, "Place", f.Place, 0, 0, 1, 4, 0)
	check(t, "Value", f.Value, 0, 0, 2, 4, 0)
	check(t, "Path", f.Path, 0, 1, 1, 1, 5)
	f = of(x, reads)
	check(t, "State", f.State, flow.Runs, flow.Runs, flow.LeftOut, flow.Runs, flow.LeftOut)
	check(t, "Write", f.Write, no, no, no, is(1), no)
	check(t, "Pair", f.Pair, 0, 0, 2, 0, 0)
	check(t, "Place", f.Place, 0, 0, 0, 0, 0)
	check(t, "Value", f.Value, 0, 0, 0, 0, 0)
	check(t, "Path", f.Path, 0, 1, 0, 1, 0)
	check(t, "Left", f.Left, 1<<6)
	check(t, "Regs", f.Regs, [8]flow.Val{is(3), is(4), is(1), is(0), is(0), is(0), is(0), is(0)})
}

// P13.1: works matters for Scs only, reads for Ops that read only.
func TestOtherInputs(t *testing.T) {
	x := parsed(t, "load r0 x/store x r0/swap r1 x 1/amo r2 x 1/lr r3 x/sc r4 x 1")
	all, none := of(x, []flow.Val{is(1), is(9), is(3), is(4), is(5), is(9)}, 0, 1, 2, 3, 4, 5), of(x, []flow.Val{is(1), no, is(3), is(4), is(5), no}, 5)
	if !same(*all, *none) || !all.Whole {
		t.Errorf("%+v, %+v", all, none)
	}
}

// P13.1: a Sc's pair is the last Lr or Sc that was reached before it in its thread, if that is an Lr of its location.
func TestPair(t *testing.T) {
	check := func(want int, threads ...string) {
		t.Helper()
		x := parsed(t, threads...)
		n := len(flow.Ops(&x))
		for _, succeed := range [][]int{{}, {n - 1}, {n - 2}, {n - 2, n - 1}} {
			if got := of(x, make([]flow.Val, n), succeed[:min(len(succeed), n-1)]...); got.Pair[n-1] != want {
				t.Errorf("%q: %v, want %d", threads, got.Pair, want)
			}
		}
	}
	check(1, "lr r0 x/sc r1 x 1")
	check(2, "load r0 y", "lr r0 x/sc r1 x 1")
	check(1, "lr r0 x/load r0 y/store x 1/swap r0 y 1/fence rw rw/li r0 1/sc r1 x 1")
	check(1, "beq 0 1 2/lr r0 x/beq 0 0 1/lr r0 y/sc r1 x 1")
	check(1, "lr r0 x/beq 0 0 1/sc r1 x 1/sc r1 x 1")
	check(2, "lr r0 x/lr r0 x/sc r1 x 1")
	check(2, "lr r0 y/lr r0 x/sc r1 x 1")
	check(3, "lr r0 y/sc r1 y 1/lr r0 x/sc r1 x 1")
	check(0, "load r0 x/sc r1 x 1")
	check(0, "load r0 x/swap r1 x 1/sc r1 x 1")
	check(0, "lr r0 y/sc r1 x 1")
	check(0, "lr r0 x/lr r0 y/sc r1 x 1")
	check(0, "lr r0 x/sc r1 x 1/sc r1 x 1")
	check(0, "lr r0 x/sc r1 y 1/sc r1 x 1")
	check(0, "beq 0 0 1/lr r0 x/sc r1 x 1")
	check(0, "lr r0 x", "sc r1 x 1")
	check(0, "lr r0 x/sc r1 x 1", "sc r1 x 1")
	check(0, "lr r0 x/beq 0 0 1/sc r1 x 1")
	check(0, "lr r0 x/load r1 y/beq r1 0 0/sc r1 x 1")
}

// P13.1: branches skip if their Args are equal, or not equal; the Ops that are skipped are left out, also if branches are skipped with them.
func TestBranches(t *testing.T) {
	left := func(line string, want uint64) {
		t.Helper()
		x := parsed(t, "li r1 1/li r2 1/li r3 2/"+line+"/store x 1/store x 2/li r0 9/store x 3")
		f := of(x, []flow.Val{no, no, no})
		check(t, line, f.Left, want)
		ops := flow.Ops(&x)
		for k, op := range ops {
			if (f.State[k] == flow.LeftOut) != (want>>op.At&1 == 1) || f.State[k] == flow.Open {
				t.Errorf("%s: Op %d: %d", line, k, f.State[k])
			}
		}
		if (f.Regs[0][0] == is(9)) != (want>>6&1 == 0) || !f.Whole {
			t.Errorf("%s: %v", line, f.Regs)
		}
	}
	left("beq r1 r2 0", 0)
	left("beq r1 r2 1", 1<<4)
	left("beq r1 1 2", 3<<4)
	left("beq 1 r2 3", 7<<4)
	left("beq 7 7 4", 15<<4)
	left("beq r1 r3 4", 0)
	left("beq r1 2 4", 0)
	left("bne r1 r2 4", 0)
	left("bne r1 1 4", 0)
	left("bne r1 r3 1", 1<<4)
	left("bne r4 r3 4", 15<<4)
	left("bne 1 0x8000000000000001 2", 3<<4)
	x := parsed(t, "beq 0 0 2/beq 0 0 3/bne 0 1 3/store x 1/beq 0 0 2/beq 1 1 1/li r0 1/store x 2")
	f := of(x, []flow.Val{no, no})
	check(t, "Left", f.Left, 3<<1|3<<5)
	check(t, "State", f.State, flow.Runs, flow.Runs)
}

// P13.1: Path has what all branches depend on that were reached, whether they skip or not, in this thread only.
func TestPath(t *testing.T) {
	x := parsed(t, "load r0 x/load r1 y/store z 1/beq r0 5 0/store z 2/bne r1 r0 1/store z 3/store z 4", "store z 5")
	f := of(x, []flow.Val{is(1), is(2), no, no, no, no, no})
	check(t, "Path", f.Path, 0, 0, 0, 1, 0, 3, 0)
	check(t, "State", f.State, 1, 1, 1, 1, 2, 1, 1)
	f = of(x, []flow.Val{is(2), is(2), no, no, no, no, no})
	check(t, "Path", f.Path, 0, 0, 0, 1, 3, 3, 0)
	f = of(x, []flow.Val{is(2), no, no, no, no, no, no})
	check(t, "Path", f.Path, 0, 0, 0, 1, 0, 0, 0)
	x = parsed(t, "load r0 x/beq 0 0 1/beq r0 5 0/load r2 x/beq 1 r3 0/store z 1")
	f = of(x, []flow.Val{is(1), is(1), no})
	check(t, "a branch that is skipped, and one that depends on nothing", f.Path, 0, 0, 0)
	x = parsed(t, "load r0 x/beq r0 1 0/li r0 1/load r1 x/amo r2 x 1/swap r3 x 1/lr r4 x/sc r5 x 1")
	f = of(x, []flow.Val{is(1), is(1), is(1), is(1), is(1), no}, 5)
	check(t, "all kinds of Ops", f.Path, 0, 1, 1, 1, 1, 1)
}

// P13.1: behind a branch that is unknown nothing is known of its thread, and everything of the others.
func TestOpen(t *testing.T) {
	x := parsed(t, "beq 0 0 1/store x 1/load r0 x/store y 1 dep r0/beq r0 r0 1/store y 2/li r1 1/store z 1", "load r0 y/store x r0")
	reads := []flow.Val{no, no, no, no, no, is(3), no}
	f := of(x, reads)
	check(t, "State", f.State, flow.LeftOut, flow.Runs, flow.Runs, flow.Open, flow.Open, flow.Runs, flow.Runs)
	check(t, "Write", f.Write, no, no, is(1), no, no, no, is(3))
	check(t, "Place", f.Place, 0, 0, 2, 0, 0, 0, 0)
	check(t, "Value", f.Value, 0, 0, 0, 0, 0, 0, 1<<5)
	check(t, "Path", f.Path, 0, 0, 0, 0, 0, 0, 0)
	check(t, "Left", f.Left, 2, 0)
	check(t, "Regs", f.Regs, [8]flow.Val{no, is(0), is(0), is(0), is(0), is(0), is(0), is(0)}, [8]flow.Val{is(3), is(0), is(0), is(0), is(0), is(0), is(0), is(0)})
	x = parsed(t, "load r0 x/lr r1 x/beq r0 1 0/sc r2 x 1")
	f = of(x, []flow.Val{no, is(1), no}, 2)
	check(t, "a Sc that is not reached: State", f.State, flow.Runs, flow.Runs, flow.Open)
	check(t, "a Sc that is not reached: Pair", f.Pair, 0, 0, 0)
	check(t, "a Sc that is not reached: Write", f.Write, no, no, no)
}

// P13.1: Whole, if all threads and all registers are known to their ends.
func TestWhole(t *testing.T) {
	whole := func(want bool, reads []flow.Val, threads ...string) {
		t.Helper()
		if f := of(parsed(t, threads...), reads); f.Whole != want {
			t.Errorf("%q: %v", threads, f.Whole)
		}
	}
	whole(true, nil, "")
	whole(true, nil, "", "fence r w", "li r0 1")
	whole(true, []flow.Val{no}, "store x 1")
	whole(false, []flow.Val{no}, "load r0 x")
	whole(true, []flow.Val{is(0)}, "load r0 x")
	whole(true, []flow.Val{no}, "load r7 x/li r7 1")
	whole(false, []flow.Val{no}, "load r7 x/li r6 1")
	whole(false, []flow.Val{no}, "load r7 x/beq r7 1 0/li r7 1")
	whole(false, []flow.Val{no}, "load r7 x/li r6 1/add r6 r7 r6/li r7 1")
	whole(false, []flow.Val{no, is(1)}, "swap r0 x 1", "load r0 x")
	whole(false, []flow.Val{is(1), no}, "swap r0 x 1", "load r0 x")
	whole(true, []flow.Val{is(1), is(1)}, "swap r0 x 1", "load r0 x")
	whole(true, []flow.Val{no}, "beq 0 0 1/load r0 x")
}

// P13.1: everything that is known, for random tests, is what the second implementation says.
func TestRandom(t *testing.T) {
	r := rand.New(rand.NewSource(2))
	for range 60000 {
		x := random(r)
		reads, works := inputs(r, x)
		readsBefore, worksBefore := slices.Clone(reads), slices.Clone(works)
		got, want := flow.Of(&x, reads, works), modelled(x, reads, works)
		if !same(*got, want) {
			t.Fatalf("%+v, %v, %v:\n%+v, want\n%+v", x, reads, works, *got, want)
		}
		if !slices.Equal(reads, readsBefore) || !slices.Equal(works, worksBefore) {
			t.Fatalf("the arguments are changed: %v, %v", reads, works)
		}
	}
}

// remains: whether all that a says is said by b as well.
func remains(a, b *flow.Flow) bool {
	for k, state := range a.State {
		if state == flow.Open {
			continue
		}
		if b.State[k] != state || b.Pair[k] != a.Pair[k] || b.Place[k] != a.Place[k] || b.Value[k] != a.Value[k] || b.Path[k] != a.Path[k] {
			return false
		}
		if a.Write[k].Known && a.Write[k] != b.Write[k] {
			return false
		}
	}
	for i, left := range a.Left {
		if left&^b.Left[i] != 0 {
			return false
		}
	}
	return !a.Whole || same(flow.Flow{Regs: a.Regs, Left: a.Left, State: a.State, Whole: true}, flow.Flow{Regs: b.Regs, Left: b.Left, State: b.State, Whole: b.Whole})
}

// P13.2: what is known remains the same when more of the values that are read is known.
func TestMoreIsKnown(t *testing.T) {
	r := rand.New(rand.NewSource(3))
	for range 20000 {
		x := random(r)
		reads, works := inputs(r, x)
		before := flow.Of(&x, reads, works)
		for _, k := range r.Perm(len(reads)) {
			if !reads[k].Known {
				reads[k].Known = true
				after := flow.Of(&x, reads, works)
				if !remains(before, after) {
					t.Fatalf("%+v, %v, %v:\n%+v, then\n%+v", x, reads, works, before, after)
				}
				before = after
			}
		}
		if !before.Whole || slices.Contains(before.State, flow.Open) {
			t.Fatalf("%+v, %v, %v: %+v", x, reads, works, before)
		}
	}
}

// P13.1, K3 and K4: a flow belongs to the caller, and the same arguments give the same one again.
func TestFlowsShareNothing(t *testing.T) {
	x := parsed(t, "load r0 x/beq r0 1 1/lr r1 x dep r0/sc r2 x r1", "store x r0")
	reads, works := []flow.Val{is(2), is(1), no, no}, []bool{false, false, true, false}
	f, again := flow.Of(&x, reads, works), flow.Of(&x, reads, works)
	want := modelled(x, reads, works)
	for k := range f.State {
		f.State[k], f.Write[k], f.Pair[k], f.Place[k], f.Value[k], f.Path[k] = 9, is(9), 9, 9, 9, 9
	}
	f.Left[0], f.Regs[0][0] = 9, is(9)
	clear(reads)
	clear(works)
	if !same(*again, want) {
		t.Errorf("%+v, want %+v", *again, want)
	}
}

// K7: invalid tests and Ops, and lists of another length, do no harm.
func TestInvalid(t *testing.T) {
	for op := -2; op < 21; op++ {
		for _, n := range []int{math.MinInt, -1, 3, 8, 9, 64, math.MaxInt} {
			bad := litmus.Instr{Op: op, Rd: n, Loc: n, A: litmus.Arg{Reg: true, N: uint64(n)}, B: litmus.Arg{Reg: true, N: 8}, Dep: n, Pred: n, Succ: n, Skip: n}
			x := litmus.Test{Threads: [][]litmus.Instr{{bad, bad}, slices.Repeat([]litmus.Instr{bad}, 70)}}
			ops := flow.Ops(&x)
			if f := flow.Of(&x, make([]flow.Val, len(ops)), make([]bool, len(ops))); f == nil {
				t.Error("no flow")
			}
			flow.Reckon(op, 1, uint64(n))
		}
	}
	x := parsed(t, "load r0 x/lr r1 x/sc r2 x 1/amo r3 x 1", "load r0 x")
	none := flow.Of(&x, nil, nil)
	if want := of(x, make([]flow.Val, 5)); !same(*none, *want) {
		t.Errorf("no values: %+v, want %+v", none, want)
	}
	flow.Of(&x, make([]flow.Val, 99), make([]bool, 99))
}
