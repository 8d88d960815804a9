package seqc_test

import (
	"fmt"
	"math/rand"
	"slices"

	"ordeal/api"
	"ordeal/flow"
	"ordeal/litmus"
	"ordeal/outcome"
)

// naive is the machine as the chapter describes it, in which every instruction is a step. It keeps all stores, so that a Sc can look back.
type naive struct {
	memory   [8]uint64
	next     []int
	regs     [][8]uint64
	reserved []reservation
	stores   []stored
}

// reservation is a location, and how many stores there were when it was reserved.
type reservation struct {
	is         bool
	loc, since int
}

// stored is a store, by its thread and its location.
type stored struct {
	thread, loc int
}

// stepped are all states in which the naive machine may end.
func stepped(x litmus.Test) outcome.Set {
	n := len(x.Threads)
	m := naive{next: make([]int, n), regs: make([][8]uint64, n), reserved: make([]reservation, n)}
	for i, loc := range x.Locs {
		m.memory[i] = loc.V
	}
	ends := map[outcome.State]bool{}
	m.explore(x, map[string]bool{}, ends)
	return outcome.Of(ends)
}

// explore finds the states in which the machine may end from here on.
func (m naive) explore(x litmus.Test, seen map[string]bool, ends map[outcome.State]bool) {
	if key := fmt.Sprint(m); seen[key] {
		return
	} else {
		seen[key] = true
	}
	over := true
	for i, list := range x.Threads {
		if m.next[i] == len(list) {
			continue
		}
		over = false
		instr := list[m.next[i]]
		c := m.copied()
		c.execute(i, instr, false)
		c.explore(x, seen, ends)
		if instr.Op == litmus.Sc && m.holds(i, instr.Loc) {
			c := m.copied()
			c.execute(i, instr, true)
			c.explore(x, seen, ends)
		}
	}
	if over {
		ends[outcome.Made(&x, m.regs, m.memory)] = true
	}
}

// holds: whether a thread has reserved a location, and no other one has stored to it since.
func (m naive) holds(i, loc int) bool {
	held := m.reserved[i]
	if !held.is || held.loc != loc {
		return false
	}
	return !slices.ContainsFunc(m.stores[held.since:], func(s stored) bool { return s.thread != i && s.loc == loc })
}

// copied shares no memory with m.
func (m naive) copied() naive {
	m.next, m.regs = slices.Clone(m.next), slices.Clone(m.regs)
	m.reserved, m.stores = slices.Clone(m.reserved), slices.Clone(m.stores)
	return m
}

// execute executes an instruction; works is whether it succeeds, if it is a Sc.
func (m *naive) execute(i int, x litmus.Instr, works bool) {
	arg := func(a litmus.Arg) uint64 {
		if a.Reg {
			return m.regs[i][a.N]
		}
		return a.N
	}
	store := func(v uint64) {
		m.memory[x.Loc] = v
		m.stores = append(m.stores, stored{i, x.Loc})
	}
	a, b := arg(x.A), arg(x.B)
	m.next[i]++
	switch x.Op {
	case litmus.Li:
		m.regs[i][x.Rd] = a
	case litmus.Load:
		m.regs[i][x.Rd] = m.memory[x.Loc]
	case litmus.Store:
		store(a)
	case litmus.Swap:
		m.regs[i][x.Rd] = m.memory[x.Loc]
		store(a)
	case litmus.Amo:
		m.regs[i][x.Rd] = m.memory[x.Loc]
		store(a + m.memory[x.Loc])
	case litmus.Lr:
		m.regs[i][x.Rd] = m.memory[x.Loc]
		m.reserved[i] = reservation{true, x.Loc, len(m.stores)}
	case litmus.Sc:
		m.reserved[i] = reservation{}
		m.regs[i][x.Rd] = 1
		if works {
			m.regs[i][x.Rd] = 0
			store(a)
		}
	case litmus.Beq, litmus.Bne:
		if (a == b) == (x.Op == litmus.Beq) {
			m.next[i] += x.Skip
		}
	case litmus.Fence:
	default:
		m.regs[i][x.Rd] = flow.Reckon(x.Op, a, b)
	}
}

// axioms are the states that the axiomatic model permits.
func axioms(x litmus.Test) outcome.Set {
	m := model{test: x, ops: flow.Ops(&x), ends: map[outcome.State]bool{}}
	m.choose(make([]bool, len(m.ops)), 0)
	return outcome.Of(m.ends)
}

// model goes through all total orders of the Ops of a test that respect the order of each thread. Those that do not execute are part of the order, but have no effect.
type model struct {
	test  litmus.Test
	ops   []flow.Op
	works []bool
	ends  map[outcome.State]bool
}

// choose considers all choices of which Scs from Op k on succeed.
func (m *model) choose(works []bool, k int) {
	if k == len(m.ops) {
		m.works = works
		m.extend(nil)
		return
	}
	m.choose(works, k+1)
	if m.instr(k).Op == litmus.Sc {
		works = slices.Clone(works)
		works[k] = true
		m.choose(works, k+1)
	}
}

// extend considers all orders that begin with these Ops.
func (m *model) extend(order []int) {
	if len(order) == len(m.ops) {
		m.judge(order)
	}
	for k, op := range m.ops {
		isFirst := k == 0 || m.ops[k-1].Thread != op.Thread || slices.Contains(order, k-1)
		if isFirst && !slices.Contains(order, k) {
			m.extend(append(slices.Clone(order), k))
		}
	}
}

func (m *model) instr(k int) litmus.Instr {
	return m.test.Threads[m.ops[k].Thread][m.ops[k].At]
}

// judge adds the state of an order, if its Scs are paired as they have to be.
func (m *model) judge(order []int) {
	f, from := m.run(order)
	for k := range m.ops {
		if m.instr(k).Op == litmus.Sc && f.State[k] == flow.Runs && !m.isPaired(f, from, order, k) {
			return
		}
	}
	regs := make([][8]uint64, len(f.Regs))
	for i, list := range f.Regs {
		for reg, v := range list {
			regs[i][reg] = v.V
		}
	}
	var locs [8]uint64
	for i, loc := range m.test.Locs {
		locs[i] = loc.V
		if last := m.last(f, order, i); last >= 0 {
			locs[i] = f.Write[last].V
		}
	}
	m.ends[outcome.Made(&m.test, regs, locs)] = true
}

// run is the flow in which each load reads the last store before it in the order, and which one that is (-1: the initial value).
func (m *model) run(order []int) (*flow.Flow, []int) {
	reads, from := make([]flow.Val, len(m.ops)), make([]int, len(m.ops))
	f := flow.Of(&m.test, reads, m.works)
	for i, k := range order {
		if !m.instr(k).Of().Reads {
			continue
		}
		from[k] = m.last(f, order[:i], m.instr(k).Loc)
		reads[k] = flow.Val{Known: true, V: m.test.Locs[m.instr(k).Loc].V}
		if from[k] >= 0 {
			reads[k] = f.Write[from[k]]
		}
		f = flow.Of(&m.test, reads, m.works)
	}
	return f, from
}

// last is the last of these Ops that stores to a location, or -1.
func (m *model) last(f *flow.Flow, order []int, loc int) int {
	last := -1
	for _, k := range order {
		if f.State[k] == flow.Runs && m.instr(k).Of().Writes && m.instr(k).Loc == loc {
			last = k
		}
	}
	return last
}

// isPaired: whether Sc k is paired, and no other thread's store comes after the one that its Lr read and before it.
func (m *model) isPaired(f *flow.Flow, from, order []int, k int) bool {
	if f.Pair[k] == 0 {
		return false
	}
	// The initial value is before all of the order: the index of -1 is -1.
	read := slices.Index(order, from[f.Pair[k]-1])
	for _, s := range order[read+1 : slices.Index(order, k)] {
		isStore := f.State[s] == flow.Runs && m.instr(s).Of().Writes && m.instr(s).Loc == m.instr(k).Loc
		if isStore && m.ops[s].Thread != m.ops[k].Thread {
			return false
		}
	}
	return true
}

// often are the memory instructions and fences of a random test, as often as they are to be there.
var often = []int{litmus.Load, litmus.Store, litmus.Load, litmus.Store, litmus.Load, litmus.Store, litmus.Swap, litmus.Amo, litmus.Fence, litmus.Beq, litmus.Bne}

// paired are those of a test with Lr and Sc.
var paired = []int{litmus.Lr, litmus.Sc, litmus.Lr, litmus.Sc, litmus.Lr, litmus.Sc, litmus.Lr, litmus.Sc, litmus.Load, litmus.Store, litmus.Store, litmus.Swap, litmus.Amo, litmus.Beq}

// random is a random valid test of at most so many threads, instructions of each, and Ops, with instructions from a list.
func random(r *rand.Rand, from []int, threads, size, ops int) litmus.Test {
	for {
		x := litmus.Test{Locs: []litmus.Init{{Name: "x", V: uint64(r.Intn(2))}, {Name: "y"}, {Name: "z"}}}
		locs := 1 + r.Intn(3)
		for range 1 + r.Intn(threads) {
			size := r.Intn(size + 1)
			var list []litmus.Instr
			for i := range size {
				list = append(list, instruction(r, from, locs, size-1-i))
			}
			x.Threads = append(x.Threads, list)
		}
		if x.Check() == api.OK && len(flow.Ops(&x)) <= ops {
			return x
		}
	}
}

// instruction is a random one, most often from a list, valid if so many others follow it.
func instruction(r *rand.Rand, from []int, locs, following int) litmus.Instr {
	arg := func() litmus.Arg {
		return litmus.Arg{Reg: r.Intn(2) == 0, N: uint64(r.Intn(3))}
	}
	x := litmus.Instr{Op: from[r.Intn(len(from))]}
	if r.Intn(6) == 0 {
		x.Op = litmus.Li + r.Intn(8)
	}
	if x.Sets() {
		x.Rd = r.Intn(3)
	}
	kind := x.Of()
	switch {
	case kind != litmus.Kind{}:
		x.Loc, x.Dep = r.Intn(locs), r.Intn(2)*r.Intn(4)
		x.Acq, x.Rel = kind.Reads && r.Intn(4) == 0, kind.Writes && r.Intn(4) == 0
		if kind.Writes {
			x.A = litmus.Arg{N: 1 + uint64(r.Intn(3))}
			if r.Intn(4) == 0 {
				x.A = arg()
			}
		}
	case x.Op == litmus.Fence:
		x.Pred, x.Succ = 1+r.Intn(3), 1+r.Intn(3)
	case x.Op == litmus.Li:
		x.A = litmus.Arg{N: uint64(r.Intn(3))}
	default:
		x.A, x.B = arg(), arg()
		if x.Op == litmus.Beq || x.Op == litmus.Bne {
			x.Skip = r.Intn(min(following, 2) + 1)
		}
	}
	return x
}
