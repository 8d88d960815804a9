package flow_test

import (
	"math/rand"
	"slices"

	"ordeal/api"
	"ordeal/flow"
	"ordeal/litmus"
)

// model is one thread of a second implementation, which has no registers: it looks back in the list of the instructions that were reached.
type model struct {
	list    []litmus.Instr
	first   int // the thread's first Op
	reads   []flow.Val
	works   []bool
	reached []int // the places of the instructions that were reached
	left    []int // the places of those that branches skip
	ended   bool
}

// modelled is Of.
func modelled(x litmus.Test, reads []flow.Val, works []bool) flow.Flow {
	f := flow.Flow{Whole: true}
	for _, list := range x.Threads {
		m := model{list: list, first: len(f.State), reads: reads, works: works}
		m.trace()
		for at := range list {
			if isMemory(list[at]) {
				m.note(&f, at)
			}
		}
		var left uint64
		for _, at := range m.left {
			left |= 1 << at
		}
		f.Left = append(f.Left, left)
		var regs [8]flow.Val
		for reg := range regs {
			regs[reg], _ = m.register(len(m.reached), reg)
			f.Whole = f.Whole && regs[reg].Known
		}
		f.Regs = append(f.Regs, regs)
		f.Whole = f.Whole && m.ended
	}
	return f
}

func isMemory(x litmus.Instr) bool { return x.Op >= litmus.Load && x.Op <= litmus.Sc }

func isBranch(x litmus.Instr) bool { return x.Op == litmus.Beq || x.Op == litmus.Bne }

// trace finds out which instructions are reached, and which are skipped.
func (m *model) trace() {
	at := 0
	for at < len(m.list) {
		x := m.list[at]
		a, _ := m.arg(len(m.reached), x.A)
		b, _ := m.arg(len(m.reached), x.B)
		m.reached = append(m.reached, at)
		at++
		if !isBranch(x) {
			continue
		}
		if !a.Known || !b.Known {
			return
		}
		if x.Op == litmus.Beq && a.V == b.V || x.Op == litmus.Bne && a.V != b.V {
			for range x.Skip {
				m.left = append(m.left, at)
				at++
			}
		}
	}
	m.ended = true
}

// op is the number of the Op at a place.
func (m *model) op(at int) int {
	k := m.first
	for _, x := range m.list[:at] {
		if isMemory(x) {
			k++
		}
	}
	return k
}

// fails: whether the instruction at a place is a Sc that does not succeed.
func (m *model) fails(at int) bool {
	return m.list[at].Op == litmus.Sc && !m.works[m.op(at)]
}

// register is what a register has before the n-th instruction that is reached, and the Ops on which it depends.
func (m *model) register(n, reg int) (flow.Val, uint64) {
	for n--; n >= 0; n-- {
		at := m.reached[n]
		x := m.list[at]
		if x.Op == litmus.Store || x.Op == litmus.Fence || isBranch(x) || x.Rd != reg {
			continue
		}
		k := m.op(at)
		switch {
		case m.fails(at):
			return flow.Val{Known: true, V: 1}, 0
		case x.Op == litmus.Sc:
			return flow.Val{Known: true}, 1 << k
		case isMemory(x):
			return m.read(k), 1 << k
		case x.Op == litmus.Li:
			return m.arg(n, x.A)
		}
		a, fromA := m.arg(n, x.A)
		b, fromB := m.arg(n, x.B)
		if !a.Known || !b.Known {
			return flow.Val{}, fromA | fromB
		}
		return flow.Val{Known: true, V: reckoned(x.Op, a.V, b.V)}, fromA | fromB
	}
	return flow.Val{Known: true}, 0
}

// arg is an Arg of the n-th instruction that is reached.
func (m *model) arg(n int, a litmus.Arg) (flow.Val, uint64) {
	if a.Reg {
		return m.register(n, int(a.N))
	}
	return flow.Val{Known: true, V: a.N}, 0
}

// read is what Op k reads.
func (m *model) read(k int) flow.Val {
	if m.reads[k].Known {
		return m.reads[k]
	}
	return flow.Val{}
}

// reckoned is Reckon, with bits one by one where they are shifted.
func reckoned(op int, a, b uint64) uint64 {
	var v uint64
	for i := range uint64(64) {
		bitA, bitB := a>>i&1, b>>i&1
		switch op {
		case litmus.Xor:
			v |= (bitA + bitB) % 2 << i
		case litmus.And:
			v |= bitA * bitB << i
		case litmus.Or:
			v |= max(bitA, bitB) << i
		case litmus.Shl:
			if to := i + b%64; to < 64 {
				v |= bitA << to
			}
		case litmus.Shr:
			if i >= b%64 {
				v |= bitA << (i - b%64)
			}
		}
	}
	switch op {
	case litmus.Add:
		v = -(-a - b)
	case litmus.Sub:
		v = a + ^b + 1
	}
	return v
}

// note adds what is known of the Op at a place.
func (m *model) note(f *flow.Flow, at int) {
	state, pair := flow.Open, 0
	var write flow.Val
	var place, value, path uint64
	n := slices.Index(m.reached, at)
	if n >= 0 && m.list[at].Op == litmus.Sc {
		pair = m.pair(n)
	}
	switch {
	case slices.Contains(m.left, at), n >= 0 && m.fails(at):
		state = flow.LeftOut
	case n >= 0:
		state = flow.Runs
		x := m.list[at]
		if x.Dep > 0 {
			_, place = m.register(n, x.Dep-1)
		}
		if x.Op != litmus.Load && x.Op != litmus.Lr {
			write, value = m.arg(n, x.A)
		}
		if read := m.read(m.op(at)); x.Op == litmus.Amo {
			write = flow.Val{Known: write.Known && read.Known, V: write.V + read.V}
		}
		if !write.Known {
			write.V = 0
		}
		for i, before := range m.reached[:n] {
			if isBranch(m.list[before]) {
				_, fromA := m.arg(i, m.list[before].A)
				_, fromB := m.arg(i, m.list[before].B)
				path |= fromA | fromB
			}
		}
	}
	f.State, f.Write, f.Pair = append(f.State, state), append(f.Write, write), append(f.Pair, pair)
	f.Place, f.Value, f.Path = append(f.Place, place), append(f.Value, value), append(f.Path, path)
}

// pair is the Lr of a Sc that is the n-th instruction that is reached, plus 1; 0 if there is none.
func (m *model) pair(n int) int {
	loc := m.list[m.reached[n]].Loc
	for n--; n >= 0; n-- {
		at := m.reached[n]
		switch x := m.list[at]; {
		case x.Op == litmus.Lr && x.Loc == loc:
			return m.op(at) + 1
		case x.Op == litmus.Lr, x.Op == litmus.Sc:
			return 0
		}
	}
	return 0
}

// same compares all parts of two flows.
func same(a, b flow.Flow) bool {
	return slices.Equal(a.State, b.State) && slices.Equal(a.Write, b.Write) && slices.Equal(a.Pair, b.Pair) &&
		slices.Equal(a.Place, b.Place) && slices.Equal(a.Value, b.Value) && slices.Equal(a.Path, b.Path) &&
		slices.Equal(a.Left, b.Left) && slices.Equal(a.Regs, b.Regs) && a.Whole == b.Whole
}

// random is a random valid test, of few registers and locations, so that instructions depend on each other.
func random(r *rand.Rand) litmus.Test {
	for {
		x := litmus.Test{Locs: []litmus.Init{{Name: "x"}, {Name: "y"}}}
		for range 1 + r.Intn(3) {
			size := r.Intn(9)
			var list []litmus.Instr
			for i := range size {
				list = append(list, instruction(r, size-1-i))
			}
			x.Threads = append(x.Threads, list)
		}
		if x.Check() == api.OK {
			return x
		}
	}
}

// instruction is a random one, valid if so many others follow it.
func instruction(r *rand.Rand, following int) litmus.Instr {
	arg := func() litmus.Arg {
		if r.Intn(4) > 0 {
			return litmus.Arg{Reg: true, N: uint64(r.Intn(3))}
		}
		return litmus.Arg{N: uint64(r.Intn(3))}
	}
	x := litmus.Instr{Op: 1 + r.Intn(litmus.Last)}
	if r.Intn(4) == 0 {
		x.Op = []int{litmus.Lr, litmus.Sc}[r.Intn(2)]
	}
	if x.Sets() {
		x.Rd = r.Intn(3)
	}
	switch {
	case isMemory(x):
		kind := x.Of()
		x.Loc, x.Dep = r.Intn(2), r.Intn(4)
		x.Acq, x.Rel = kind.Reads && r.Intn(4) == 0, kind.Writes && r.Intn(4) == 0
		if kind.Writes {
			x.A = arg()
		}
	case isBranch(x):
		x.A, x.B, x.Skip = arg(), arg(), r.Intn(following+1)
	case x.Op == litmus.Fence:
		x.Pred, x.Succ = 1+r.Intn(3), 1+r.Intn(3)
	case x.Op == litmus.Li:
		x.A = litmus.Arg{N: uint64(r.Intn(3))}
	default:
		x.A, x.B = arg(), arg()
	}
	return x
}

// inputs are random values that the Ops of x read, about one in three of them unknown, and which Scs succeed.
func inputs(r *rand.Rand, x litmus.Test) ([]flow.Val, []bool) {
	var reads []flow.Val
	var works []bool
	for range flow.Ops(&x) {
		v := uint64(r.Intn(3))
		if r.Intn(8) == 0 {
			v = r.Uint64()
		}
		reads = append(reads, flow.Val{Known: r.Intn(3) > 0, V: v})
		works = append(works, r.Intn(2) == 0)
	}
	return reads, works
}
