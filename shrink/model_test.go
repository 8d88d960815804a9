package shrink_test

import (
	"math/rand"
	"slices"

	"ordeal/api"
	"ordeal/litmus"
)

// part names a part of a test: what it is, and its numbers.
type part struct {
	what string
	a, b int
}

// modelled is Lesser, written as a list of parts, without each of which the test is built anew.
func modelled(t litmus.Test) []litmus.Test {
	var parts, plain []part
	if len(t.Threads) > 1 {
		for i := range t.Threads {
			parts = append(parts, part{"thread", i, 0})
		}
	}
	used := map[int]bool{}
	for i, thread := range t.Threads {
		for at, x := range thread {
			parts = append(parts, part{"instr", i, at})
			if x.Op >= litmus.Load && x.Op <= litmus.Sc {
				used[x.Loc] = true
			}
			if x.Acq {
				plain = append(plain, part{"acq", i, at})
			}
			if x.Rel {
				plain = append(plain, part{"rel", i, at})
			}
			if x.Dep > 0 {
				plain = append(plain, part{"dep", i, at})
			}
		}
	}
	for i, a := range t.Asks {
		parts = append(parts, part{"atom", i, 0})
		if a.Thread < 0 {
			used[a.At] = true
		}
	}
	for i, loc := range t.Locs {
		if !used[i] {
			parts = append(parts, part{"loc", i, 0})
		}
		if loc.V > 0 {
			plain = append(plain, part{"value", i, 0})
		}
	}
	// Initial values are the last of all.
	slices.SortStableFunc(plain, func(x, y part) int {
		return count(x.what == "value") - count(y.what == "value")
	})
	var list []litmus.Test
	for _, p := range append(parts, plain...) {
		list = append(list, rebuilt(t, p))
	}
	return list
}

// rebuilt is a test without a part: all that has a number has that of those before it that stay.
func rebuilt(t litmus.Test, p part) litmus.Test {
	staying := func(what string, from, to, at int) int {
		n := 0
		for i := from; i < to; i++ {
			switch what {
			case "instr":
				n += count(p != part{what, at, i})
			default:
				n += count(p != part{what, i, 0})
			}
		}
		return n
	}
	var u litmus.Test
	for i, loc := range t.Locs {
		if p == (part{"value", i, 0}) {
			loc.V = 0
		}
		if p != (part{"loc", i, 0}) {
			u.Locs = append(u.Locs, loc)
		}
	}
	for i, thread := range t.Threads {
		var instrs []litmus.Instr
		for at, x := range thread {
			x.Skip = staying("instr", at+1, at+1+x.Skip, i)
			x.Loc = staying("loc", 0, x.Loc, 0)
			x.Acq = x.Acq && p != part{"acq", i, at}
			x.Rel = x.Rel && p != part{"rel", i, at}
			x.Dep *= count(p != part{"dep", i, at})
			if p != (part{"instr", i, at}) {
				instrs = append(instrs, x)
			}
		}
		if p != (part{"thread", i, 0}) {
			u.Threads = append(u.Threads, instrs)
		}
	}
	for i, a := range t.Asks {
		if p == (part{"atom", i, 0}) || p.what == "thread" && a.Thread == p.a {
			continue
		}
		if a.Thread < 0 {
			a.At = staying("loc", 0, a.At, 0)
		} else {
			a.Thread = staying("thread", 0, a.Thread, 0)
		}
		u.Asks = append(u.Asks, a)
	}
	return u
}

// count is 1 for true.
func count(is bool) int {
	if is {
		return 1
	}
	return 0
}

// same: whether two tests are the same in everything.
func same(a, b litmus.Test) bool {
	return slices.Equal(a.Locs, b.Locs) && slices.Equal(a.Asks, b.Asks) && slices.EqualFunc(a.Threads, b.Threads, slices.Equal)
}

// random is a valid test.
func random(r *rand.Rand) litmus.Test {
	for {
		x := litmus.Test{}
		for _, name := range []string{"a", "b", "c", "r10", "x", "y", "z", "zz"}[:1+r.Intn(8)] {
			x.Locs = append(x.Locs, litmus.Init{Name: name, V: rare(r, 3)})
		}
		for range 1 + r.Intn(4) {
			var thread []litmus.Instr
			n := r.Intn(6) + 3*r.Intn(2)
			for at := range n {
				thread = append(thread, instruction(r, len(x.Locs), n-at-1))
			}
			x.Threads = append(x.Threads, thread)
		}
		for thread := range x.Threads {
			for at := range 8 {
				if r.Intn(8) == 0 {
					x.Asks = append(x.Asks, litmus.Atom{Thread: thread, At: at, V: r.Uint64()})
				}
			}
		}
		for at := range x.Locs {
			if r.Intn(4) == 0 {
				x.Asks = append(x.Asks, litmus.Atom{Thread: -1, At: at, V: rare(r, 2)})
			}
		}
		if x.Check() == api.OK {
			return x
		}
	}
}

// instruction is a valid one, which so many others follow.
func instruction(r *rand.Rand, locs, following int) litmus.Instr {
	arg := func() litmus.Arg { return litmus.Arg{Reg: r.Intn(2) == 0, N: uint64(r.Intn(8))} }
	x := litmus.Instr{Op: 1 + r.Intn(litmus.Last), Rd: r.Intn(8), A: arg(), B: arg()}
	flag := func() bool { return r.Intn(3) == 0 }
	dep := max(0, r.Intn(14)-5)
	switch x.Op {
	case litmus.Li:
		return litmus.Instr{Op: x.Op, Rd: x.Rd, A: litmus.Arg{N: x.A.N}}
	case litmus.Load, litmus.Lr:
		return litmus.Instr{Op: x.Op, Rd: x.Rd, Loc: r.Intn(locs), Acq: flag(), Dep: dep}
	case litmus.Store:
		return litmus.Instr{Op: x.Op, A: x.A, Loc: r.Intn(locs), Rel: flag(), Dep: dep}
	case litmus.Sc:
		return litmus.Instr{Op: x.Op, Rd: x.Rd, A: x.A, Loc: r.Intn(locs), Rel: flag(), Dep: dep}
	case litmus.Swap, litmus.Amo:
		return litmus.Instr{Op: x.Op, Rd: x.Rd, A: x.A, Loc: r.Intn(locs), Acq: flag(), Rel: flag(), Dep: dep}
	case litmus.Fence:
		return litmus.Instr{Op: x.Op, Pred: 1 + r.Intn(3), Succ: 1 + r.Intn(3)}
	case litmus.Beq, litmus.Bne:
		return litmus.Instr{Op: x.Op, A: x.A, B: x.B, Skip: r.Intn(following + 1)}
	}
	return x
}

// rare is 0, or sometimes another number below n.
func rare(r *rand.Rand, n int) uint64 {
	return uint64(r.Intn(2) * r.Intn(n))
}
