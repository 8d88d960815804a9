package shrink

import (
	"slices"

	"ordeal/litmus"
)

// lessThreads: a test without each of its threads, if there is more than one.
func lessThreads(t litmus.Test) []litmus.Test {
	var list []litmus.Test
	if len(t.Threads) > 1 {
		for thread := range t.Threads {
			list = append(list, withoutThread(t, thread))
		}
	}
	return list
}

// withoutThread: a test without a thread and what is asked of it.
func withoutThread(t litmus.Test, thread int) litmus.Test {
	u := copied(t)
	u.Threads = slices.Delete(u.Threads, thread, thread+1)
	u.Asks = slices.DeleteFunc(u.Asks, func(a litmus.Atom) bool { return a.Thread == thread })
	for i, a := range u.Asks {
		if a.Thread > thread {
			u.Asks[i].Thread--
		}
	}
	return u
}

// lessInstrs: a test without each of its instructions.
func lessInstrs(t litmus.Test) []litmus.Test {
	var list []litmus.Test
	for thread, instrs := range t.Threads {
		for at := range instrs {
			list = append(list, withoutInstr(t, thread, at))
		}
	}
	return list
}

// withoutInstr: a test without an instruction; a branch that skips it skips one less.
func withoutInstr(t litmus.Test, thread, at int) litmus.Test {
	u := copied(t)
	instrs := u.Threads[thread]
	for i, x := range instrs[:at] {
		if x.Skip >= at-i {
			instrs[i].Skip--
		}
	}
	u.Threads[thread] = slices.Delete(instrs, at, at+1)
	return u
}

// lessAtoms: a test without each of its atoms.
func lessAtoms(t litmus.Test) []litmus.Test {
	var list []litmus.Test
	for i := range t.Asks {
		u := copied(t)
		u.Asks = slices.Delete(u.Asks, i, i+1)
		list = append(list, u)
	}
	return list
}

// lessLocs: a test without each of those locations that nothing names.
func lessLocs(t litmus.Test) []litmus.Test {
	var list []litmus.Test
	for loc := range t.Locs {
		if !isNamed(t, loc) {
			list = append(list, withoutLoc(t, loc))
		}
	}
	return list
}

// isNamed: whether an instruction or an atom names a location.
func isNamed(t litmus.Test, loc int) bool {
	asks := func(a litmus.Atom) bool { return isLocation(a) && a.At == loc }
	// The Loc of an instruction that has none is 0 too.
	accesses := func(x litmus.Instr) bool { return x.IsMemory() && x.Loc == loc }
	return slices.ContainsFunc(t.Asks, asks) || slices.ContainsFunc(t.Threads, func(instrs []litmus.Instr) bool {
		return slices.ContainsFunc(instrs, accesses)
	})
}

// withoutLoc: a test without a location that nothing names.
func withoutLoc(t litmus.Test, loc int) litmus.Test {
	u := copied(t)
	u.Locs = slices.Delete(u.Locs, loc, loc+1)
	for _, instrs := range u.Threads {
		for i, x := range instrs {
			if x.Loc > loc {
				instrs[i].Loc--
			}
		}
	}
	for i, a := range u.Asks {
		if isLocation(a) && a.At > loc {
			u.Asks[i].At--
		}
	}
	return u
}

// plainer: a test in which one instruction has no Acq, no Rel or no Dep any more.
func plainer(t litmus.Test) []litmus.Test {
	var list []litmus.Test
	for thread, instrs := range t.Threads {
		for at, x := range instrs {
			for _, y := range plain(x) {
				u := copied(t)
				u.Threads[thread][at] = y
				list = append(list, u)
			}
		}
	}
	return list
}

// plain: an instruction without its Acq, without its Rel and without its Dep, as far as it has them.
func plain(x litmus.Instr) []litmus.Instr {
	acq, rel, dep := x, x, x
	acq.Acq, rel.Rel, dep.Dep = false, false, 0
	// One that has none of them stays as it is.
	return slices.DeleteFunc([]litmus.Instr{acq, rel, dep}, func(y litmus.Instr) bool { return y == x })
}

// zeroed: a test in which one location is 0 at first that is not so yet.
func zeroed(t litmus.Test) []litmus.Test {
	var list []litmus.Test
	for i, loc := range t.Locs {
		if loc.V != 0 {
			u := copied(t)
			u.Locs[i].V = 0
			list = append(list, u)
		}
	}
	return list
}

// isLocation: whether an atom asks for a location.
func isLocation(a litmus.Atom) bool {
	return a.Thread == -1
}

// copied is a test that shares no memory with t.
func copied(t litmus.Test) litmus.Test {
	u := litmus.Test{Locs: slices.Clone(t.Locs), Asks: slices.Clone(t.Asks), Threads: slices.Clone(t.Threads)}
	for i, instrs := range u.Threads {
		u.Threads[i] = slices.Clone(instrs)
	}
	return u
}
