// Package local executes what a thread computes by itself, between the instructions that others may notice. The machines of layers 14 and 15 share it.
package local

import (
	"ordeal/api"
	"ordeal/flow"
	"ordeal/litmus"
)

// Thread is the place of a thread's next instruction, and its registers.
type Thread struct {
	Next int
	Regs [api.MaxRegs]uint64
}

// Run executes the instructions of a thread up to the next one at which it stops, or to its end. It has to stop at memory instructions.
func (th *Thread) Run(list []litmus.Instr, stops func(x litmus.Instr) bool) {
	for th.Next < len(list) && !stops(list[th.Next]) {
		x := list[th.Next]
		th.Next++
		th.execute(x)
	}
}

// execute executes an instruction that has nothing to do with memory.
func (th *Thread) execute(x litmus.Instr) {
	a, b := th.Arg(x.A), th.Arg(x.B)
	switch x.Op {
	case litmus.Li:
		th.Regs[x.Rd] = a
	case litmus.Beq:
		if a == b {
			th.Next += x.Skip
		}
	case litmus.Bne:
		if a != b {
			th.Next += x.Skip
		}
	case litmus.Fence:
	default:
		th.Regs[x.Rd] = flow.Reckon(x.Op, a, b)
	}
}

// Arg: the value of an Arg.
func (th *Thread) Arg(a litmus.Arg) uint64 {
	if a.Reg {
		return th.Regs[a.N]
	}
	return a.N
}
