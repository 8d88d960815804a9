package axtso_test

import (
	"math/rand"

	"ordeal/api"
	"ordeal/flow"
	"ordeal/litmus"
	"ordeal/ppo"
	"ordeal/rel"
)

// judged is a second implementation of what store buffers keep, which judges each pair by itself and looks for fences only between stores and loads.
func judged(c *ppo.Case) rel.Rel {
	var kept rel.Rel
	for b, after := range c.Ops {
		for a, before := range c.Ops[:b] {
			isRun := c.Flow.State[a] == flow.Runs && c.Flow.State[b] == flow.Runs
			if isRun && before.Thread == after.Thread && !mayPass(c, before, after) {
				kept[a] += 1 << b
			}
		}
	}
	return kept
}

// mayPass: whether a load may be done before a store that precedes it.
func mayPass(c *ppo.Case, before, after flow.Op) bool {
	list := c.T.Threads[before.Thread]
	switch list[before.At].Op {
	case litmus.Store, litmus.Sc:
	default:
		return false
	}
	switch list[after.At].Op {
	case litmus.Load, litmus.Lr:
	default:
		return false
	}
	for at := before.At + 1; at < after.At; at++ {
		x := list[at]
		isSkipped := c.Flow.Left[before.Thread]&(1<<at) != 0
		if x.Op == litmus.Fence && !isSkipped && x.Pred >= 2 && x.Succ != 2 {
			return false
		}
	}
	return true
}

// plain are the memory instructions and fences of a random test without Lr and Sc, as often as they are to be there.
var plain = []int{litmus.Load, litmus.Store, litmus.Load, litmus.Store, litmus.Load, litmus.Store, litmus.Load, litmus.Store, litmus.Swap, litmus.Amo, litmus.Fence, litmus.Fence, litmus.Beq, litmus.Bne}

// paired are those of a test with Lr and Sc.
var paired = []int{litmus.Lr, litmus.Sc, litmus.Lr, litmus.Sc, litmus.Load, litmus.Store, litmus.Load, litmus.Store, litmus.Swap, litmus.Amo, litmus.Fence, litmus.Fence, litmus.Beq}

// random is a random valid test of threads of at most so many instructions, with instructions from a list.
func random(r *rand.Rand, from []int, size int) litmus.Test {
	for {
		x := litmus.Test{Locs: []litmus.Init{{Name: "x", V: uint64(r.Intn(2))}, {Name: "y"}, {Name: "z"}}}
		locs := 1 + r.Intn(3)
		for range 1 + r.Intn(4) {
			n := r.Intn(size + 1)
			var list []litmus.Instr
			for i := range n {
				list = append(list, instruction(r, from, locs, n-1-i))
			}
			x.Threads = append(x.Threads, list)
		}
		if x.Check() == api.OK {
			return x
		}
	}
}

// instruction is a random one, most often from a list, valid if so many others follow it.
func instruction(r *rand.Rand, from []int, locs, following int) litmus.Instr {
	arg := func() litmus.Arg {
		return litmus.Arg{Reg: r.Intn(2) == 0, N: uint64(r.Intn(3))}
	}
	x := litmus.Instr{Op: from[r.Intn(len(from))]}
	if r.Intn(10) == 0 {
		x.Op = litmus.Li + r.Intn(8)
	}
	if x.Sets() {
		x.Rd = r.Intn(3)
	}
	kind := x.Of()
	switch {
	case kind != litmus.Kind{}:
		x.Loc, x.Dep = r.Intn(locs), r.Intn(2)*r.Intn(4)
		x.Acq, x.Rel = kind.Reads && r.Intn(8) == 0, kind.Writes && r.Intn(8) == 0
		if kind.Writes {
			x.A = arg()
		}
	case x.Op == litmus.Fence:
		x.Pred, x.Succ = 1+r.Intn(3), 1+r.Intn(3)
	case x.Op == litmus.Li:
		x.A = litmus.Arg{N: uint64(r.Intn(3))}
	default:
		x.A, x.B = arg(), arg()
		if x.Op == litmus.Beq || x.Op == litmus.Bne {
			x.Skip = r.Intn(min(following, 3) + 1)
		}
	}
	return x
}

// loose is a random test of loads and stores of different values, and some fences, in which buffers are often to be seen.
func loose(r *rand.Rand) litmus.Test {
	x := litmus.Test{Locs: []litmus.Init{{Name: "x"}, {Name: "y"}}}
	threads := 2 + r.Intn(3)
	for thread := range threads {
		var list []litmus.Instr
		for i := range min(8/threads, 2+r.Intn(2)) {
			store := litmus.Instr{Op: litmus.Store, Loc: r.Intn(2), A: litmus.Arg{N: uint64(10*thread + i + 1)}, Rel: r.Intn(3) == 0}
			load := litmus.Instr{Op: litmus.Load, Rd: i, Loc: r.Intn(2), Acq: r.Intn(3) == 0}
			if r.Intn(6) == 0 {
				list = append(list, litmus.Instr{Op: litmus.Fence, Pred: 1 + r.Intn(3), Succ: 1 + r.Intn(3)})
			}
			list = append(list, []litmus.Instr{store, load}[r.Intn(2)])
		}
		x.Threads = append(x.Threads, list)
	}
	return x
}

// randomCase is a case of a test, in which some of what is read may be unknown, and Ops that read may read from any Op.
func randomCase(r *rand.Rand, x litmus.Test) *ppo.Case {
	c := &ppo.Case{T: &x, Ops: flow.Ops(&x)}
	var reads []flow.Val
	var works []bool
	for _, op := range c.Ops {
		from := -1
		if x.Threads[op.Thread][op.At].Of().Reads {
			from = r.Intn(len(c.Ops)+1) - 1
		}
		reads = append(reads, flow.Val{Known: r.Intn(5) > 0, V: uint64(r.Intn(3))})
		works = append(works, r.Intn(3) > 0)
		c.From = append(c.From, from)
	}
	c.Flow = flow.Of(&x, reads, works)
	return c
}
