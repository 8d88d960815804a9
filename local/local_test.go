package local_test

import (
	"testing"

	"ordeal/litmus"
	"ordeal/local"
)

func num(n uint64) litmus.Arg { return litmus.Arg{N: n} }
func reg(n uint64) litmus.Arg { return litmus.Arg{Reg: true, N: n} }

// Layers 14 and 15: a thread computes up to the next instruction at which it stops, and goes on behind it.
func TestRun(t *testing.T) {
	list := []litmus.Instr{
		{Op: litmus.Li, Rd: 1, A: num(5)},
		{Op: litmus.Fence, Pred: 1, Succ: 1},
		{Op: litmus.Sub, Rd: 2, A: reg(1), B: num(7)},
		{Op: litmus.Store, A: num(1)},
		{Op: litmus.Beq, A: reg(1), B: num(5), Skip: 1},
		{Op: litmus.Load, Rd: 1},
		{Op: litmus.Bne, A: reg(1), B: num(5), Skip: 1},
		{Op: litmus.Li, Rd: 3, A: num(9)},
	}
	var th local.Thread
	th.Run(list, litmus.Instr.IsMemory)
	if th.Next != 3 || th.Regs != [8]uint64{1: 5, 2: 1<<64 - 2} {
		t.Errorf("%+v", th)
	}
	th.Run(list, litmus.Instr.IsMemory)
	if th.Next != 3 {
		t.Errorf("it did not stop again: %+v", th)
	}
	th.Next++
	th.Run(list, litmus.Instr.IsMemory)
	if th.Next != len(list) || th.Regs != [8]uint64{1: 5, 2: 1<<64 - 2, 3: 9} {
		t.Errorf("%+v", th)
	}
	th.Run(list, litmus.Instr.IsMemory)
	if th.Next != len(list) {
		t.Errorf("it went on behind its end: %+v", th)
	}
}

// Layer 14: a thread stops where it is told to.
func TestStops(t *testing.T) {
	list := []litmus.Instr{{Op: litmus.Li, A: num(1)}, {Op: litmus.Fence, Pred: 2, Succ: 1}, {Op: litmus.Li, A: num(2)}}
	var th local.Thread
	th.Run(list, func(x litmus.Instr) bool { return x.Op == litmus.Fence })
	if th.Next != 1 || th.Regs[0] != 1 {
		t.Errorf("%+v", th)
	}
}

// Layers 14 and 15: a branch skips to the end of a thread at most.
func TestBranchToTheEnd(t *testing.T) {
	for _, list := range [][]litmus.Instr{
		{{Op: litmus.Beq, A: num(1), B: num(1), Skip: 1}, {Op: litmus.Store}},
		{{Op: litmus.Bne, A: num(1), B: reg(0), Skip: 1}, {Op: litmus.Store}},
		{{Op: litmus.Beq, A: num(1), B: reg(0), Skip: 1}, {Op: litmus.Li}},
		{},
	} {
		var th local.Thread
		th.Run(list, litmus.Instr.IsMemory)
		if th.Next != len(list) {
			t.Errorf("%+v: %+v", list, th)
		}
	}
}

// Layers 14 and 15: an Arg is the value of a register, or a number.
func TestArg(t *testing.T) {
	th := local.Thread{Regs: [8]uint64{3: 7}}
	if th.Arg(reg(3)) != 7 || th.Arg(num(3)) != 3 || th.Arg(num(1<<63)) != 1<<63 || th.Arg(reg(4)) != 0 {
		t.Errorf("%d, %d", th.Arg(reg(3)), th.Arg(num(3)))
	}
}
