package seqc

import (
	"ordeal/api"
	"ordeal/litmus"
	"ordeal/local"
	"ordeal/outcome"
)

// machine is all that there is at one moment. It is copied and compared as a value.
type machine struct {
	memory  [api.MaxLocs]uint64
	threads [api.MaxThreads]thread
}

// thread is a thread with the location that it has reserved, plus 1 (0: none).
type thread struct {
	local.Thread
	reserved int
}

// start is the machine at the start of a test.
func start(t *litmus.Test) machine {
	var m machine
	for i, loc := range t.Locs {
		m.memory[i] = loc.V
	}
	for i, list := range t.Threads {
		m.threads[i].Run(list, litmus.Instr.IsMemory)
	}
	return m
}

// following: what the machine may be after a thread has executed its next memory instruction, and all that it computes before the one after that. Other threads cannot notice when it computes, so no outcome is lost, and the number of machines stays small.
func (m machine) following(t *litmus.Test) []machine {
	var list []machine
	for i, instrs := range t.Threads {
		th := &m.threads[i]
		if th.Next == len(instrs) {
			continue
		}
		x := instrs[th.Next]
		list = append(list, m.executed(i, instrs, false))
		if x.Op == litmus.Sc && th.reserved == x.Loc+1 {
			list = append(list, m.executed(i, instrs, true))
		}
	}
	return list
}

// executed: the machine after a thread's next memory instruction; works is whether it succeeds, if it is a Sc.
func (m machine) executed(i int, list []litmus.Instr, works bool) machine {
	th := &m.threads[i]
	x := list[th.Next]
	// A is the value from before Rd is set.
	a, old := th.Arg(x.A), m.memory[x.Loc]
	switch x.Op {
	case litmus.Load:
		th.Regs[x.Rd] = old
	case litmus.Lr:
		th.Regs[x.Rd] = old
		th.reserved = x.Loc + 1
	case litmus.Store:
		m.store(i, x.Loc, a)
	case litmus.Swap:
		th.Regs[x.Rd] = old
		m.store(i, x.Loc, a)
	case litmus.Amo:
		th.Regs[x.Rd] = old
		m.store(i, x.Loc, old+a)
	case litmus.Sc:
		th.Regs[x.Rd] = 1
		th.reserved = 0
		if works {
			th.Regs[x.Rd] = 0
			m.store(i, x.Loc, a)
		}
	}
	th.Next++
	th.Run(list, litmus.Instr.IsMemory)
	return m
}

// store lets a thread store to a location: no other thread has it reserved any more, even if its value stays the same.
func (m *machine) store(i, loc int, v uint64) {
	m.memory[loc] = v
	for k := range m.threads {
		if k != i && m.threads[k].reserved == loc+1 {
			m.threads[k].reserved = 0
		}
	}
}

// state: the state of a test that has ended.
func (m machine) state(t *litmus.Test) outcome.State {
	var regs [][api.MaxRegs]uint64
	for i := range t.Threads {
		regs = append(regs, m.threads[i].Regs)
	}
	return outcome.Made(t, regs, m.memory)
}
