package rvwmo_test

import (
	"fmt"
	"math/rand"
	"slices"

	"ordeal/api"
	"ordeal/flow"
	"ordeal/litmus"
	"ordeal/outcome"
	"ordeal/ppo"
	"ordeal/rel"
	"ordeal/rvwmo"
)

// model is a test, for two further implementations: by total orders, and by trying all that a run consists of.
type model struct {
	test  litmus.Test
	ops   []flow.Op
	order rvwmo.Order
}

func modelled(x litmus.Test, order rvwmo.Order) *model {
	return &model{test: x, ops: flow.Ops(&x), order: order}
}

func (m *model) instr(k int) litmus.Instr {
	return m.test.Threads[m.ops[k].Thread][m.ops[k].At]
}

func (m *model) isOneThread(a, b int) bool {
	return m.ops[a].Thread == m.ops[b].Thread
}

// isStore: whether Op k writes a location.
func (m *model) isStore(k, loc int) bool {
	return m.instr(k).Of().Writes && m.instr(k).Loc == loc
}

// compute is the case in which exactly these Ops execute, with the values that follow from the initial ones; false if it is none.
func (m *model) compute(executes []bool, from []int) (*ppo.Case, bool) {
	n := len(m.ops)
	reads := make([]flow.Val, n)
	f := flow.Of(&m.test, reads, executes)
	for range n + 1 {
		for k := range m.ops {
			switch {
			case !executes[k] || !m.instr(k).Of().Reads:
			case from[k] < 0:
				reads[k] = flow.Val{Known: true, V: m.test.Locs[m.instr(k).Loc].V}
			default:
				reads[k] = f.Write[from[k]]
			}
		}
		f = flow.Of(&m.test, reads, executes)
	}
	for k := range m.ops {
		isUnknown := executes[k] && m.instr(k).Of().Reads && !reads[k].Known
		isAlone := executes[k] && m.instr(k).Op == litmus.Sc && f.Pair[k] == 0
		if executes[k] != (f.State[k] == flow.Runs) || isUnknown || isAlone {
			return nil, false
		}
	}
	return &ppo.Case{T: &m.test, Ops: m.ops, Flow: f, From: from}, f.Whole
}

// state is the final state of a case, if these are all stores, the last ones of each location last.
func (m *model) state(c *ppo.Case, stores []int) outcome.State {
	regs := make([][8]uint64, len(c.Flow.Regs))
	for i, list := range c.Flow.Regs {
		for reg, v := range list {
			regs[i][reg] = v.V
		}
	}
	var locs [8]uint64
	for i, loc := range m.test.Locs {
		locs[i] = loc.V
	}
	for _, k := range stores {
		locs[m.instr(k).Loc] = c.Flow.Write[k].V
	}
	return outcome.Made(&m.test, regs, locs)
}

// axioms are the states of all total orders of loads and stores, as the published axioms permit them.
func axioms(x litmus.Test, order rvwmo.Order) outcome.Set {
	m := modelled(x, order)
	ends := map[outcome.State]bool{}
	for set := range 1 << len(m.ops) {
		var all []int
		executes := make([]bool, len(m.ops))
		for k := range m.ops {
			if executes[k] = set>>k&1 == 1; executes[k] {
				all = append(all, k)
			}
		}
		permuted(nil, all, func(total []int) {
			c, ok := m.compute(executes, m.sources(total))
			if ok && m.respects(c, total) && m.isPaired(c, total) {
				stores := slices.DeleteFunc(slices.Clone(total), func(k int) bool { return !m.instr(k).Of().Writes })
				ends[m.state(c, stores)] = true
			}
		})
	}
	return outcome.Of(ends)
}

// permuted calls visit with a list and all others behind it, in each order.
func permuted(list, others []int, visit func(list []int)) {
	if len(others) == 0 {
		visit(list)
	}
	for i, k := range others {
		permuted(append(slices.Clone(list), k), slices.Concat(others[:i], others[i+1:]), visit)
	}
}

// sources are the Ops from which each one reads: the last store of a total order that is before it there, or in its thread.
func (m *model) sources(total []int) []int {
	from := slices.Repeat([]int{-1}, len(m.ops))
	for i, k := range total {
		if !m.instr(k).Of().Reads {
			continue
		}
		for j, s := range total {
			isBefore := j < i || m.isOneThread(s, k) && s < k
			if isBefore && s != k && m.isStore(s, m.instr(k).Loc) {
				from[k] = s
			}
		}
	}
	return from
}

// respects: whether a total order has what threads keep.
func (m *model) respects(c *ppo.Case, total []int) bool {
	kept := m.order(c)
	for i, a := range total {
		for _, b := range total[:i+1] {
			if kept.Has(a, b) {
				return false
			}
		}
	}
	return true
}

// isPaired: whether for no Sc another thread's store is behind the one that its Lr read, and before it.
func (m *model) isPaired(c *ppo.Case, total []int) bool {
	for at, sc := range total {
		if m.instr(sc).Op != litmus.Sc {
			continue
		}
		// The initial value is before all: the index of -1 is -1.
		read := slices.Index(total, c.From[c.Flow.Pair[sc]-1])
		if read > at {
			return false
		}
		for _, s := range total[read+1 : at] {
			if m.isStore(s, m.instr(sc).Loc) && !m.isOneThread(s, sc) {
				return false
			}
		}
	}
	return true
}

// run is all of a permitted run, as a value.
type run struct {
	from, state string
	co, ahead   rel.Rel
	end         outcome.State
}

// tried are all permitted runs of a test: it tries which Ops execute, from where they read, and the orders of all stores.
func tried(x litmus.Test, order rvwmo.Order) map[run]bool {
	m := modelled(x, order)
	found := map[run]bool{}
	for set := range 1 << len(m.ops) {
		executes := make([]bool, len(m.ops))
		for k := range m.ops {
			executes[k] = set>>k&1 == 1
		}
		m.tryReads(executes, nil, found)
	}
	return found
}

// tryReads tries what the Ops read that are not in from yet.
func (m *model) tryReads(executes []bool, from []int, found map[run]bool) {
	k := len(from)
	if k == len(m.ops) {
		if c, ok := m.compute(executes, from); ok {
			m.tryStores(c, executes, found)
		}
		return
	}
	for s := -1; s < len(m.ops); s++ {
		canRead := executes[k] && m.instr(k).Of().Reads && s != k && s >= 0 && executes[s] && m.isStore(s, m.instr(k).Loc) && (s < k || !m.isOneThread(s, k))
		if s == -1 || canRead {
			m.tryReads(executes, append(slices.Clone(from), s), found)
		}
	}
}

// tryStores tries all orders of the stores of a case.
func (m *model) tryStores(c *ppo.Case, executes []bool, found map[run]bool) {
	var stores, all []int
	for k := range m.ops {
		if executes[k] {
			all = append(all, k)
		}
		if executes[k] && m.instr(k).Of().Writes {
			stores = append(stores, k)
		}
	}
	permuted(nil, stores, func(list []int) {
		var co rel.Rel
		for i, a := range list {
			for _, b := range list[i+1:] {
				if m.instr(a).Loc == m.instr(b).Loc {
					co[a] |= 1 << b
				}
			}
		}
		if ahead, ok := m.judge(c, all, co); ok {
			found[run{fmt.Sprint(c.From), fmt.Sprint(c.Flow.State), co, ahead, m.state(c, list)}] = true
		}
	})
}

// judge: whether a case is permitted with an order of its stores, and what has to precede what.
func (m *model) judge(c *ppo.Case, all []int, co rel.Rel) (rel.Rel, bool) {
	var ahead rel.Rel
	kept := m.order(c)
	for _, a := range all {
		for _, b := range all {
			isOuter := c.From[b] == a && !m.isOneThread(a, b)
			isLater := m.isLater(c, a, b, co)
			if isLater && m.isOneThread(a, b) && b < a {
				return ahead, false
			}
			if kept.Has(a, b) || isOuter || co.Has(a, b) || isLater {
				ahead[a] |= 1 << b
			}
		}
		if m.instr(a).Op == litmus.Sc && !m.isUndisturbed(c, all, a, co) {
			return ahead, false
		}
	}
	return ahead, m.isAcyclic(all, ahead)
}

// isLater: whether Op b is a store behind the one from which Op a reads.
func (m *model) isLater(c *ppo.Case, a, b int, co rel.Rel) bool {
	if a == b || !m.instr(a).Of().Reads || !m.isStore(b, m.instr(a).Loc) {
		return false
	}
	return c.From[a] == -1 || co.Has(c.From[a], b)
}

// isUndisturbed: whether a Sc is behind the store that its Lr read, and no other thread's store between them.
func (m *model) isUndisturbed(c *ppo.Case, all []int, sc int, co rel.Rel) bool {
	read := c.From[c.Flow.Pair[sc]-1]
	if read >= 0 && !co.Has(read, sc) {
		return false
	}
	for _, s := range all {
		isAfter := read < 0 || co.Has(read, s)
		if isAfter && co.Has(s, sc) && !m.isOneThread(s, sc) {
			return false
		}
	}
	return true
}

// isAcyclic: whether all can be taken away one after the other, each one when nothing that is left has to precede it.
func (m *model) isAcyclic(all []int, ahead rel.Rel) bool {
	left := slices.Clone(all)
	for len(left) > 0 {
		isFirst := func(b int) bool {
			return !slices.ContainsFunc(left, func(a int) bool { return ahead.Has(a, b) })
		}
		i := slices.IndexFunc(left, isFirst)
		if i < 0 {
			return false
		}
		left = slices.Delete(left, i, i+1)
	}
	return true
}

// often are the memory instructions and fences of a random test, as often as they are to be there.
var often = []int{litmus.Load, litmus.Store, litmus.Load, litmus.Store, litmus.Load, litmus.Store, litmus.Load, litmus.Store, litmus.Swap, litmus.Amo, litmus.Fence, litmus.Beq, litmus.Bne}

// paired are those of a test with Lr and Sc.
var paired = []int{litmus.Lr, litmus.Sc, litmus.Lr, litmus.Sc, litmus.Lr, litmus.Sc, litmus.Load, litmus.Store, litmus.Store, litmus.Swap, litmus.Amo, litmus.Beq}

// mixed is a random test of at most so many threads and Ops: by turns one with Lr and Sc, one of all else, and a loose one.
func mixed(r *rand.Rand, i, threads, ops int) litmus.Test {
	switch i % 3 {
	case 0:
		return random(r, paired, threads, 5, ops)
	case 1:
		return random(r, often, threads, 5, ops)
	}
	return loose(r, max(threads, 2), ops)
}

// loose is a random test of mostly loads and stores of different values, of which little is kept, so that it often has states that the other models have not.
func loose(r *rand.Rand, threads, ops int) litmus.Test {
	x := litmus.Test{Locs: []litmus.Init{{Name: "x"}, {Name: "y"}}}
	threads = 2 + r.Intn(threads-1)
	for range threads {
		var list []litmus.Instr
		for range min(ops/threads, 2+r.Intn(2)) {
			load := litmus.Instr{Op: litmus.Load, Rd: len(list), Loc: r.Intn(2)}
			store := litmus.Instr{Op: litmus.Store, Loc: r.Intn(2), A: litmus.Arg{N: uint64(10*len(x.Threads) + len(list) + 1)}}
			fence := litmus.Instr{Op: litmus.Fence, Pred: 1 + r.Intn(3), Succ: 1 + r.Intn(3)}
			switch r.Intn(8) {
			case 0:
				load.Dep = 1
			case 1:
				store.Dep = 1
			case 2:
				store.A = litmus.Arg{Reg: true}
			case 3:
				list = append(list, fence)
			}
			list = append(list, []litmus.Instr{load, store}[r.Intn(2)])
		}
		x.Threads = append(x.Threads, list)
	}
	return x
}

// random is a random valid test of at most so many threads, instructions of each, and Ops, with instructions from a list.
func random(r *rand.Rand, from []int, threads, size, ops int) litmus.Test {
	for {
		x := litmus.Test{Locs: []litmus.Init{{Name: "x", V: uint64(r.Intn(2))}, {Name: "y"}, {Name: "z"}}}
		locs := 1 + r.Intn(3)
		for range 1 + r.Intn(threads) {
			size := r.Intn(size + 1)
			var list []litmus.Instr
			for i := range size {
				list = append(list, instruction(r, from, locs, size-1-i))
			}
			x.Threads = append(x.Threads, list)
		}
		if x.Check() == api.OK && len(flow.Ops(&x)) <= ops {
			return x
		}
	}
}

// instruction is a random one, most often from a list, valid if so many others follow it.
func instruction(r *rand.Rand, from []int, locs, following int) litmus.Instr {
	arg := func() litmus.Arg {
		return litmus.Arg{Reg: r.Intn(2) == 0, N: uint64(r.Intn(3))}
	}
	x := litmus.Instr{Op: from[r.Intn(len(from))]}
	if r.Intn(8) == 0 {
		x.Op = litmus.Li + r.Intn(8)
	}
	if x.Sets() {
		x.Rd = r.Intn(3)
	}
	kind := x.Of()
	switch {
	case kind != litmus.Kind{}:
		x.Loc, x.Dep = r.Intn(locs), r.Intn(2)*r.Intn(4)
		x.Acq, x.Rel = kind.Reads && r.Intn(8) == 0, kind.Writes && r.Intn(8) == 0
		if kind.Writes {
			x.A = litmus.Arg{N: 1 + uint64(r.Intn(3))}
			if r.Intn(3) == 0 {
				x.A = arg()
			}
		}
	case x.Op == litmus.Fence:
		x.Pred, x.Succ = 1+r.Intn(3), 1+r.Intn(3)
	case x.Op == litmus.Li:
		x.A = litmus.Arg{N: uint64(r.Intn(3))}
	default:
		x.A, x.B = arg(), arg()
		if x.Op == litmus.Beq || x.Op == litmus.Bne {
			x.Skip = r.Intn(min(following, 2) + 1)
		}
	}
	return x
}
