package tso

import (
	"ordeal/api"
	"ordeal/litmus"
	"ordeal/local"
	"ordeal/outcome"
)

// machine is all that there is at one moment. It is copied and compared as a value, so what is not in use has to be zero.
type machine struct {
	memory  [api.MaxLocs]uint64
	threads [api.MaxThreads]thread
}

// thread is a thread with its store buffer: the oldest store first.
type thread struct {
	local.Thread
	buffer [api.MaxInstrs]store
	stores int
}

// store is a store in a buffer.
type store struct {
	loc int
	v   uint64
}

// start is the machine at the start of a test.
func start(t *litmus.Test) machine {
	var m machine
	for i, loc := range t.Locs {
		m.memory[i] = loc.V
	}
	for i, list := range t.Threads {
		m.threads[i].Run(list, isStep)
	}
	return m
}

// following: what the machine may be after one step: a store leaves a buffer, or a thread executes its next memory instruction or full Fence, and all that it computes before the one after that. Other threads cannot notice when it computes, so no outcome is lost, and the number of machines stays small.
func (m machine) following(t *litmus.Test) []machine {
	var list []machine
	for i, instrs := range t.Threads {
		if m.threads[i].stores > 0 {
			list = append(list, m.drained(i))
		}
		if next, ok := m.executed(i, instrs); ok {
			list = append(list, next)
		}
	}
	return list
}

// drained: the machine after the oldest store of a thread's buffer has left it.
func (m machine) drained(i int) machine {
	th := &m.threads[i]
	oldest := th.buffer[0]
	m.memory[oldest.loc] = oldest.v
	copy(th.buffer[:], th.buffer[1:])
	th.stores--
	th.buffer[th.stores] = store{}
	return m
}

// executed: the machine after a thread's next memory instruction or full Fence; false if there is none, or if it has to wait for the buffer.
func (m machine) executed(i int, list []litmus.Instr) (machine, bool) {
	th := &m.threads[i]
	if th.Next == len(list) {
		return machine{}, false
	}
	x := list[th.Next]
	// A is the value from before Rd is set.
	a := th.Arg(x.A)
	switch {
	case x.Op == litmus.Load:
		th.Regs[x.Rd] = th.loaded(x.Loc, m.memory[x.Loc])
	case x.Op == litmus.Store:
		th.buffer[th.stores] = store{loc: x.Loc, v: a}
		th.stores++
	case th.stores > 0:
		return machine{}, false
	case x.Op == litmus.Swap:
		th.Regs[x.Rd], m.memory[x.Loc] = m.memory[x.Loc], a
	case x.Op == litmus.Amo:
		th.Regs[x.Rd], m.memory[x.Loc] = m.memory[x.Loc], m.memory[x.Loc]+a
	}
	th.Next++
	th.Run(list, isStep)
	return m, true
}

// isStep: whether an instruction is a step of its own.
func isStep(x litmus.Instr) bool {
	return x.IsMemory() || isFull(x)
}

// isFull: whether an instruction is a full Fence, one that waits until the buffer is empty.
func isFull(x litmus.Instr) bool {
	return x.Op == litmus.Fence && x.Pred&litmus.Writes != 0 && x.Succ&litmus.Reads != 0
}

// loaded: what a load of a location reads, where memory has a value for it.
func (th *thread) loaded(loc int, memory uint64) uint64 {
	for k := th.stores - 1; k >= 0; k-- {
		if th.buffer[k].loc == loc {
			return th.buffer[k].v
		}
	}
	return memory
}

// state: the state of a test that has ended.
func (m machine) state(t *litmus.Test) outcome.State {
	var regs [][api.MaxRegs]uint64
	for i := range t.Threads {
		regs = append(regs, m.threads[i].Regs)
	}
	return outcome.Made(t, regs, m.memory)
}
