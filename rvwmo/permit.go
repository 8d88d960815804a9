package rvwmo

import (
	"ordeal/api"
	"ordeal/flow"
	"ordeal/litmus"
	"ordeal/outcome"
	"ordeal/ppo"
	"ordeal/rel"
)

// candidate is a case, of which some orders of its stores may be permitted.
type candidate struct {
	*ppo.Case
	stores []uint16 // of each location, those that execute
	fixed  rel.Rel  // which Op has to precede which, whatever the order of the stores
	po     rel.Rel
}

// eachRun calls visit with each permitted run of a case, in which threads keep what is given.
func eachRun(c *ppo.Case, kept rel.Rel, visit func(r Run)) {
	all := c.Runs()
	// Only what executes is in the order, and has to respect what is kept.
	m := candidate{Case: c, fixed: kept.And(rel.Cross(all, all)), po: c.Po()}
	for loc := range c.T.Locs {
		m.stores = append(m.stores, c.Those(func(x litmus.Instr) bool { return x.Of().Writes && x.Loc == loc }))
	}
	for k, from := range c.From {
		if from >= 0 && c.Ops[from].Thread != c.Ops[k].Thread {
			m.fixed = m.fixed.With(from, k)
		}
	}
	if m.fixed.Around() {
		return
	}
	eachCo(m.stores, m.fixed.Closed().Turned(), rel.Rel{}, func(co rel.Rel) {
		if ahead, ok := m.permits(co); ok {
			visit(Run{Case: copied(c), Co: co, Ahead: ahead, State: m.state(co)})
		}
	})
}

// eachCo calls visit with co and an order of the stores of each location, for all orders in which none is before one that has to be ahead of it.
func eachCo(stores []uint16, ahead, co rel.Rel, visit func(co rel.Rel)) {
	if len(stores) == 0 {
		visit(co)
		return
	}
	eachList(stores[0], ahead, nil, func(list []int) {
		eachCo(stores[1:], ahead, co.Or(rel.Chain(list)), visit)
	})
}

// eachList calls visit with a list and all elements of a set behind it, for all orders of them in which none is before one that has to be ahead of it. Lists share memory: visit must not keep them.
func eachList(set uint16, ahead rel.Rel, list []int, visit func(list []int)) {
	if set == 0 {
		visit(list)
		return
	}
	for k := range rel.Size {
		if has(set, k) && ahead[k]&set == 0 {
			eachList(set&^(1<<k), ahead, append(list, k), visit)
		}
	}
}

// permits: by which pairs one Op has to precede another one if the stores are in an order, and whether that is permitted.
func (m *candidate) permits(co rel.Rel) (rel.Rel, bool) {
	later := m.later(co)
	ahead := m.fixed.Or(co).Or(later)
	if ahead.Around() || later.And(m.po.Turned()) != (rel.Rel{}) {
		return rel.Rel{}, false
	}
	for k := range m.Ops {
		if m.succeeds(k) && !m.isUndisturbed(k, co) {
			return rel.Rel{}, false
		}
	}
	return ahead, true
}

// later relates each Op that reads to all stores, except itself, that are after the one from which it reads.
func (m *candidate) later(co rel.Rel) rel.Rel {
	var later rel.Rel
	reads := m.Reads()
	for k, from := range m.From {
		switch {
		case !has(reads, k):
		case from == initial:
			later[k] = m.stores[m.instr(k).Loc] &^ (1 << k)
		default:
			later[k] = co[from] &^ (1 << k)
		}
	}
	return later
}

// succeeds: whether Op k is a Sc that does.
func (m *candidate) succeeds(k int) bool {
	return m.instr(k).Op == litmus.Sc && m.Flow.State[k] == flow.Runs
}

// isUndisturbed: whether a Sc comes after the store that its Lr read, with no other thread's store between them.
func (m *candidate) isUndisturbed(sc int, co rel.Rel) bool {
	between := co.Turned()[sc]
	if read := m.From[m.Flow.Pair[sc]-1]; read != initial {
		if !has(between, read) {
			return false
		}
		between &= co[read]
	}
	for k, op := range m.Ops {
		if has(between, k) && op.Thread != m.Ops[sc].Thread {
			return false
		}
	}
	return true
}

// state: the final state if the stores are in an order.
func (m *candidate) state(co rel.Rel) outcome.State {
	regs := make([][api.MaxRegs]uint64, len(m.Flow.Regs))
	for i, list := range m.Flow.Regs {
		for reg, v := range list {
			regs[i][reg] = v.V
		}
	}
	var locs [api.MaxLocs]uint64
	for i, loc := range m.T.Locs {
		locs[i] = loc.V
	}
	for k := range m.Ops {
		loc := m.instr(k).Loc
		if has(m.stores[loc], k) && co[k] == 0 {
			locs[loc] = m.Flow.Write[k].V
		}
	}
	return outcome.Made(m.T, regs, locs)
}

func (m *candidate) instr(k int) litmus.Instr {
	return m.T.Threads[m.Ops[k].Thread][m.Ops[k].At]
}

// has: whether k is in a set.
func has(set uint16, k int) bool {
	return set>>k&1 == 1
}
