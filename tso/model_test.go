package tso_test

import (
	"fmt"
	"math/rand"
	"slices"

	"ordeal/api"
	"ordeal/flow"
	"ordeal/litmus"
	"ordeal/outcome"
)

// isFull: whether an instruction is a Fence that waits until the buffer is empty.
func isFull(x litmus.Instr) bool {
	return x.Op == litmus.Fence && x.Pred >= 2 && x.Succ != 2
}

// isLocked: whether an instruction reads and writes at once.
func isLocked(x litmus.Instr) bool {
	return x.Op == litmus.Swap || x.Op == litmus.Amo
}

// naive is the machine as the chapter describes it, in which every instruction is a step.
type naive struct {
	memory  [8]uint64
	next    []int
	regs    [][8]uint64
	buffers [][][2]uint64 // the location and the value of each store
}

// stepped are all states in which the naive machine may end.
func stepped(x litmus.Test) outcome.Set {
	n := len(x.Threads)
	m := naive{next: make([]int, n), regs: make([][8]uint64, n), buffers: make([][][2]uint64, n)}
	for i, loc := range x.Locs {
		m.memory[i] = loc.V
	}
	ends := map[outcome.State]bool{}
	m.explore(x, map[string]bool{}, ends)
	return outcome.Of(ends)
}

// explore finds the states in which the machine may end from here on.
func (m naive) explore(x litmus.Test, seen map[string]bool, ends map[outcome.State]bool) {
	if key := fmt.Sprint(m); seen[key] {
		return
	} else {
		seen[key] = true
	}
	over := true
	for i, list := range x.Threads {
		if len(m.buffers[i]) > 0 {
			over = false
			c := m.copied()
			c.memory[m.buffers[i][0][0]] = m.buffers[i][0][1]
			c.buffers[i] = c.buffers[i][1:]
			c.explore(x, seen, ends)
		}
		if m.next[i] == len(list) {
			continue
		}
		over = false
		instr := list[m.next[i]]
		if len(m.buffers[i]) == 0 || !isFull(instr) && !isLocked(instr) {
			c := m.copied()
			c.execute(i, instr)
			c.explore(x, seen, ends)
		}
	}
	if over {
		ends[outcome.Made(&x, m.regs, m.memory)] = true
	}
}

// copied shares no memory with m.
func (m naive) copied() naive {
	c := naive{memory: m.memory, next: slices.Clone(m.next), regs: slices.Clone(m.regs)}
	for _, buffer := range m.buffers {
		c.buffers = append(c.buffers, slices.Clone(buffer))
	}
	return c
}

// execute executes an instruction that need not wait.
func (m *naive) execute(i int, x litmus.Instr) {
	arg := func(a litmus.Arg) uint64 {
		if a.Reg {
			return m.regs[i][a.N]
		}
		return a.N
	}
	a, b := arg(x.A), arg(x.B)
	m.next[i]++
	switch x.Op {
	case litmus.Li:
		m.regs[i][x.Rd] = a
	case litmus.Load:
		v := m.memory[x.Loc]
		for _, s := range m.buffers[i] {
			if s[0] == uint64(x.Loc) {
				v = s[1]
			}
		}
		m.regs[i][x.Rd] = v
	case litmus.Store:
		m.buffers[i] = append(m.buffers[i], [2]uint64{uint64(x.Loc), a})
	case litmus.Swap:
		m.regs[i][x.Rd] = m.memory[x.Loc]
		m.memory[x.Loc] = a
	case litmus.Amo:
		m.regs[i][x.Rd] = m.memory[x.Loc]
		m.memory[x.Loc] += a
	case litmus.Beq, litmus.Bne:
		if (a == b) == (x.Op == litmus.Beq) {
			m.next[i] += x.Skip
		}
	case litmus.Fence:
	default:
		m.regs[i][x.Rd] = flow.Reckon(x.Op, a, b)
	}
}

// axioms are the states that the axiomatic model permits.
func axioms(x litmus.Test) outcome.Set {
	m := model{test: x, ops: flow.Ops(&x), ends: map[outcome.State]bool{}}
	m.extend(nil)
	return outcome.Of(m.ends)
}

// model goes through all total orders of the Ops of a test.
type model struct {
	test litmus.Test
	ops  []flow.Op
	ends map[outcome.State]bool
}

// extend considers all orders that begin with these Ops.
func (m *model) extend(order []int) {
	if len(order) == len(m.ops) {
		m.judge(order)
	}
	for k := range m.ops {
		if !slices.Contains(order, k) && !m.isEarly(order, k) {
			m.extend(append(slices.Clone(order), k))
		}
	}
}

// isEarly: whether Op k cannot come yet, whatever is skipped, since one of its thread has to come before it.
func (m *model) isEarly(order []int, k int) bool {
	for a := range k {
		direct := m.instr(a).Op != litmus.Store || m.instr(k).Op != litmus.Load
		if direct && m.ops[a].Thread == m.ops[k].Thread && !slices.Contains(order, a) && !m.branches(m.ops[k].Thread) {
			return true
		}
	}
	return false
}

// branches: whether a thread has a branch.
func (m *model) branches(thread int) bool {
	return slices.ContainsFunc(m.test.Threads[thread], func(x litmus.Instr) bool { return x.Op == litmus.Beq || x.Op == litmus.Bne })
}

func (m *model) instr(k int) litmus.Instr {
	return m.test.Threads[m.ops[k].Thread][m.ops[k].At]
}

// judge adds the state of an order, if it is permitted.
func (m *model) judge(order []int) {
	f := m.run(order)
	if !f.Whole || slices.Contains(f.State, flow.Open) {
		return
	}
	for b := range m.ops {
		for a := range b {
			isKept := m.ops[a].Thread == m.ops[b].Thread && f.State[a] == flow.Runs && f.State[b] == flow.Runs && m.isKept(f, a, b)
			if isKept && slices.Index(order, a) > slices.Index(order, b) {
				return
			}
		}
	}
	regs := make([][8]uint64, len(f.Regs))
	for i, list := range f.Regs {
		for reg, v := range list {
			regs[i][reg] = v.V
		}
	}
	var locs [8]uint64
	for i, loc := range m.test.Locs {
		locs[i] = loc.V
	}
	for _, k := range order {
		if f.State[k] == flow.Runs && m.instr(k).Of().Writes {
			locs[m.instr(k).Loc] = f.Write[k].V
		}
	}
	m.ends[outcome.Made(&m.test, regs, locs)] = true
}

// isKept: whether Op a has to come before Op b, which is behind it in its thread.
func (m *model) isKept(f *flow.Flow, a, b int) bool {
	if m.instr(a).Op != litmus.Store || m.instr(b).Op != litmus.Load {
		return true
	}
	thread := m.ops[a].Thread
	for at := m.ops[a].At + 1; at < m.ops[b].At; at++ {
		x := m.test.Threads[thread][at]
		if f.Left[thread]>>at&1 == 0 && (isFull(x) || isLocked(x)) {
			return true
		}
	}
	return false
}

// run is the flow in which each load reads the last store before it, in the order or in its thread; not all of it is known if the loads of an order wait for each other.
func (m *model) run(order []int) *flow.Flow {
	reads := make([]flow.Val, len(m.ops))
	for {
		f := flow.Of(&m.test, reads, make([]bool, len(m.ops)))
		done := true
		for k := range m.ops {
			if !reads[k].Known && f.State[k] == flow.Runs && m.instr(k).Of().Reads {
				reads[k] = m.read(f, order, k)
				done = done && !reads[k].Known
			}
		}
		if done {
			return f
		}
	}
}

// read is what Op k reads, if that is known.
func (m *model) read(f *flow.Flow, order []int, k int) flow.Val {
	v := flow.Val{Known: true, V: m.test.Locs[m.instr(k).Loc].V}
	isOver := false
	for _, s := range order {
		isOver = isOver || s == k
		isOwn := m.ops[s].Thread == m.ops[k].Thread && s < k
		if isOver && !isOwn || m.instr(s).Loc != m.instr(k).Loc || !m.instr(s).Of().Writes {
			continue
		}
		switch f.State[s] {
		case flow.Open:
			return flow.Val{}
		case flow.Runs:
			v = f.Write[s]
		}
	}
	return v
}

// random is a random valid test without Lr and Sc, of at most so many threads, instructions of each, and Ops.
func random(r *rand.Rand, threads, size, ops int) litmus.Test {
	for {
		x := litmus.Test{Locs: []litmus.Init{{Name: "x", V: uint64(r.Intn(2))}, {Name: "y"}, {Name: "z"}}}
		locs := 1 + r.Intn(3)
		for range 1 + r.Intn(threads) {
			size := r.Intn(size + 1)
			var list []litmus.Instr
			for i := range size {
				list = append(list, instruction(r, locs, size-1-i))
			}
			x.Threads = append(x.Threads, list)
		}
		if x.Check() == api.OK && len(flow.Ops(&x)) <= ops {
			return x
		}
	}
}

// instruction is a random one, most often a load or a store, valid if so many others follow it.
func instruction(r *rand.Rand, locs, following int) litmus.Instr {
	arg := func() litmus.Arg {
		return litmus.Arg{Reg: r.Intn(2) == 0, N: uint64(r.Intn(3))}
	}
	often := []int{litmus.Load, litmus.Store, litmus.Load, litmus.Store, litmus.Load, litmus.Store, litmus.Swap, litmus.Amo, litmus.Fence, litmus.Beq, litmus.Bne}
	x := litmus.Instr{Op: often[r.Intn(len(often))]}
	if r.Intn(6) == 0 {
		x.Op = litmus.Li + r.Intn(8)
	}
	if x.Sets() {
		x.Rd = r.Intn(3)
	}
	kind := x.Of()
	switch {
	case kind != litmus.Kind{}:
		x.Loc, x.Dep = r.Intn(locs), r.Intn(2)*r.Intn(4)
		x.Acq, x.Rel = kind.Reads && r.Intn(4) == 0, kind.Writes && r.Intn(4) == 0
		if kind.Writes {
			x.A = litmus.Arg{N: 1 + uint64(r.Intn(3))}
			if r.Intn(4) == 0 {
				x.A = arg()
			}
		}
	case x.Op == litmus.Fence:
		x.Pred, x.Succ = 1+r.Intn(3), 1+r.Intn(3)
	case x.Op == litmus.Li:
		x.A = litmus.Arg{N: uint64(r.Intn(3))}
	default:
		x.A, x.B = arg(), arg()
		if x.Op == litmus.Beq || x.Op == litmus.Bne {
			x.Skip = r.Intn(min(following, 2) + 1)
		}
	}
	return x
}
