package ppo_test

import (
	"math/rand"

	"ordeal/api"
	"ordeal/flow"
	"ordeal/litmus"
	"ordeal/ppo"
	"ordeal/rel"
)

// model is a second implementation, which judges each pair by itself.
type model struct {
	*ppo.Case
}

// related are the pairs of Ops for which is returns true.
func (m model) related(is func(a, b int) bool) rel.Rel {
	var r rel.Rel
	for a := range m.Ops {
		for b := range m.Ops {
			if is(a, b) {
				r[a] |= 1 << b
			}
		}
	}
	return r
}

// members are the Ops that execute and for which is returns true.
func (m model) members(is func(k int) bool) uint16 {
	var set uint16
	for k := range m.Ops {
		if m.Flow.State[k] == flow.Runs && is(k) {
			set += 1 << k
		}
	}
	return set
}

func (m model) instr(k int) litmus.Instr {
	return m.T.Threads[m.Ops[k].Thread][m.Ops[k].At]
}

func (m model) loads(k int) bool {
	op := m.instr(k).Op
	return op == litmus.Load || op == litmus.Lr || op == litmus.Swap || op == litmus.Amo
}

func (m model) stores(k int) bool {
	op := m.instr(k).Op
	return op == litmus.Store || op == litmus.Sc || op == litmus.Swap || op == litmus.Amo
}

// precedes: whether both execute, and a is before b in program order.
func (m model) precedes(a, b int) bool {
	isRun := m.Flow.State[a] == flow.Runs && m.Flow.State[b] == flow.Runs
	return isRun && m.Ops[a].Thread == m.Ops[b].Thread && m.Ops[a].At < m.Ops[b].At
}

// between: whether an Op that executes is between both, and is returns true for it.
func (m model) between(a, b int, is func(k int) bool) bool {
	for k := range m.Ops {
		if m.precedes(a, k) && m.precedes(k, b) && is(k) {
			return true
		}
	}
	return false
}

func (m model) isSameLoc(a, b int) bool {
	return m.instr(a).Loc == m.instr(b).Loc
}

// dependent: whether bit a is set for Op b.
func dependent(on []uint64, a, b int) bool {
	return on[b]&(1<<a) != 0
}

// belongs: whether Op k belongs to a side of a Fence.
func (m model) belongs(k, side int) bool {
	switch side {
	case 1:
		return m.loads(k)
	case 2:
		return m.stores(k)
	}
	return true
}

// isFenced is rule 4.
func (m model) isFenced(a, b int) bool {
	if !m.precedes(a, b) {
		return false
	}
	thread := m.Ops[a].Thread
	for at := m.Ops[a].At; at < m.Ops[b].At; at++ {
		x := m.T.Threads[thread][at]
		isSkipped := m.Flow.Left[thread]&(1<<at) != 0
		if x.Op == litmus.Fence && !isSkipped && m.belongs(a, x.Pred) && m.belongs(b, x.Succ) {
			return true
		}
	}
	return false
}

// isMarked is rules 5 to 7.
func (m model) isMarked(a, b int) bool {
	x, y := m.instr(a), m.instr(b)
	return x.Acq || y.Rel || (x.Acq || x.Rel) && (y.Acq || y.Rel)
}

// isKept: whether a is kept before b.
func (m model) isKept(a, b int) bool {
	if !m.precedes(a, b) {
		return false
	}
	x := m.instr(a)
	isStoreTo := func(k int) bool { return m.stores(k) && m.isSameLoc(a, k) }
	switch {
	case m.stores(b) && m.isSameLoc(a, b),
		m.loads(a) && m.loads(b) && m.isSameLoc(a, b) && !m.between(a, b, isStoreTo) && m.From[a] != m.From[b],
		(x.Op == litmus.Swap || x.Op == litmus.Amo || x.Op == litmus.Sc) && m.From[b] == a,
		m.isFenced(a, b),
		m.isMarked(a, b),
		m.Flow.Pair[b] == a+1,
		dependent(m.Flow.Place, a, b),
		dependent(m.Flow.Value, a, b),
		m.stores(b) && dependent(m.Flow.Path, a, b):
		return true
	}
	return m.between(a, b, func(k int) bool {
		isSource := m.loads(b) && m.From[b] == k && m.stores(k)
		onPlace, onValue := dependent(m.Flow.Place, a, k), dependent(m.Flow.Value, a, k)
		return isSource && (onPlace || onValue) || m.stores(b) && onPlace
	})
}

// often are the instructions that are to be in a random test most often.
var often = []int{litmus.Load, litmus.Store, litmus.Load, litmus.Store, litmus.Load, litmus.Store, litmus.Swap, litmus.Amo, litmus.Lr, litmus.Sc, litmus.Fence, litmus.Beq, litmus.Bne}

// random is a random valid test of threads of at most so many instructions, of few registers and locations, so that they depend on each other.
func random(r *rand.Rand, size int) litmus.Test {
	for {
		x := litmus.Test{Locs: []litmus.Init{{Name: "x"}, {Name: "y"}, {Name: "z"}}}
		locs := 1 + r.Intn(3)
		for range 1 + r.Intn(3) {
			var list []litmus.Instr
			n := r.Intn(size + 1)
			for i := range n {
				list = append(list, instruction(r, locs, n-1-i))
			}
			x.Threads = append(x.Threads, list)
		}
		if x.Check() == api.OK {
			return x
		}
	}
}

// instruction is a random one, valid if so many others follow it.
func instruction(r *rand.Rand, locs, following int) litmus.Instr {
	arg := func() litmus.Arg {
		return litmus.Arg{Reg: r.Intn(3) > 0, N: uint64(r.Intn(3))}
	}
	x := litmus.Instr{Op: often[r.Intn(len(often))]}
	if r.Intn(6) == 0 {
		x.Op = litmus.Li + r.Intn(8)
	}
	if x.Sets() {
		x.Rd = r.Intn(3)
	}
	kind := x.Of()
	switch {
	case kind != litmus.Kind{}:
		x.Loc, x.Dep = r.Intn(locs), r.Intn(2)*r.Intn(4)
		x.Acq, x.Rel = kind.Reads && r.Intn(8) == 0, kind.Writes && r.Intn(8) == 0
		if kind.Writes {
			x.A = arg()
		}
	case x.Op == litmus.Fence:
		x.Pred, x.Succ = 1+r.Intn(3), 1+r.Intn(3)
	case x.Op == litmus.Li:
		x.A = litmus.Arg{N: uint64(r.Intn(3))}
	default:
		x.A, x.B = arg(), arg()
		if x.Op == litmus.Beq || x.Op == litmus.Bne {
			x.Skip = r.Intn(min(following, 2) + 1)
		}
	}
	return x
}

// randomCase is a case of a test: some of what is read may be unknown, and Ops may read from any store of their location.
func randomCase(r *rand.Rand, x litmus.Test) *ppo.Case {
	c := &ppo.Case{T: &x, Ops: flow.Ops(&x)}
	m := model{c}
	var reads []flow.Val
	var works []bool
	for k := range c.Ops {
		reads = append(reads, flow.Val{Known: r.Intn(5) > 0, V: uint64(r.Intn(3))})
		works = append(works, r.Intn(3) > 0)
		from := -1
		for s := range c.Ops {
			if m.loads(k) && m.stores(s) && s != k && m.isSameLoc(k, s) && r.Intn(2) == 0 {
				from = s
			}
		}
		c.From = append(c.From, from)
	}
	c.Flow = flow.Of(&x, reads, works)
	return c
}
