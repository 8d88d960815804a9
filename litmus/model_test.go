package litmus_test

import (
	"math/rand"
	"slices"
	"strings"

	"ordeal/api"
	"ordeal/litmus"
)

// fault is Check, written from the chapter as one list of faults in their order, of which the first counts.
func fault(x litmus.Test) api.Errno {
	var list []api.Errno
	add := func(bad bool, e api.Errno) {
		if bad {
			list = append(list, e)
		}
	}
	add(len(x.Threads) == 0, api.ErrEmpty)
	add(len(x.Threads) > 4 || len(x.Locs) > 8 || len(x.Asks) > 40, api.ErrMany)
	events := 0
	for _, thread := range x.Threads {
		add(len(thread) > 8, api.ErrMany)
		for _, i := range thread {
			events += strings.Count(letters(i.Op), "r") + strings.Count(letters(i.Op), "w")
		}
	}
	add(events > 8, api.ErrMany)
	for i, loc := range x.Locs {
		add(!litmus.Name(loc.Name), api.ErrName)
		add(i > 0 && strings.Compare(x.Locs[i-1].Name, loc.Name) >= 0, api.ErrOrder)
	}
	for _, thread := range x.Threads {
		for at, i := range thread {
			list = append(list, faults(i, len(x.Locs), len(thread)-at-1)...)
		}
	}
	for i, a := range x.Asks {
		register := a.Thread >= 0 && a.Thread < len(x.Threads) && a.At >= 0 && a.At < 8
		location := a.Thread == -1 && a.At >= 0 && a.At < len(x.Locs)
		add(!register && !location, api.ErrName)
		add(i > 0 && !ascending(x.Asks[i-1], a), api.ErrOrder)
	}
	return append(list, api.OK)[0]
}

// ascending: whether b may follow a.
func ascending(a, b litmus.Atom) bool {
	switch {
	case a.Thread == b.Thread:
		return a.At < b.At
	case a.Thread == -1:
		return false
	}
	return b.Thread == -1 || a.Thread < b.Thread
}

// letters: what an Op has to do with memory (r, w), and the fields that it needs: d Rd, a A, b B, m memory (Loc, Dep), f Pred and Succ, s Skip.
func letters(op int) string {
	switch op {
	case 1:
		return "da"
	case 2, 3, 4, 5, 6, 7, 8:
		return "dab"
	case 9, 13:
		return "mrd"
	case 10:
		return "mwa"
	case 11, 12:
		return "mrwda"
	case 14:
		return "mwda"
	case 15:
		return "f"
	case 16, 17:
		return "abs"
	}
	return ""
}

// faults lists what is wrong with an instruction, in the order of the chapter.
func faults(i litmus.Instr, locs, following int) []api.Errno {
	var list []api.Errno
	is := func(letter string) bool { return strings.Contains(letters(i.Op), letter) }
	add := func(bad bool, e api.Errno) {
		if bad {
			list = append(list, e)
		}
	}
	none := litmus.Arg{}
	add(letters(i.Op) == "", api.ErrForm)
	add(!is("d") && i.Rd != 0 || !is("a") && i.A != none || !is("b") && i.B != none || !is("s") && i.Skip != 0, api.ErrForm)
	add(!is("m") && (i.Loc != 0 || i.Dep != 0 || i.Acq || i.Rel), api.ErrForm)
	add(!is("f") && (i.Pred != 0 || i.Succ != 0), api.ErrForm)
	add(i.Rd < 0 || i.Rd > 7 || i.A.Reg && i.A.N > 7 || i.B.Reg && i.B.N > 7, api.ErrName)
	add(i.Dep < 0 || i.Dep > 8, api.ErrName)
	add(is("m") && (i.Loc < 0 || i.Loc >= locs), api.ErrName)
	add(i.Op == 1 && i.A.Reg, api.ErrForm)
	add(is("f") && (i.Pred < 1 || i.Pred > 3 || i.Succ < 1 || i.Succ > 3), api.ErrForm)
	add(i.Acq && !is("r") || i.Rel && !is("w"), api.ErrForm)
	add(i.Skip < 0 || i.Skip > following, api.ErrSkip)
	return list
}

// random is a test, in most cases with a fault or two.
func random(r *rand.Rand) litmus.Test {
	names := []string{"a", "b", "c0", "d", "r", "r10", "x", "y", "z", "zz"}
	x := litmus.Test{Locs: named(names[:less(r, 1+r.Intn(9))]...)}
	for range less(r, 1+r.Intn(5)) {
		var thread []litmus.Instr
		for range r.Intn(5) + rare(r, 7) {
			thread = append(thread, instruction(r, len(x.Locs)))
		}
		x.Threads = append(x.Threads, thread)
	}
	for thread := range x.Threads {
		for at := range 8 {
			if r.Intn(6) == 0 {
				x.Asks = append(x.Asks, litmus.Atom{Thread: thread, At: at, V: r.Uint64()})
			}
		}
	}
	for at := range x.Locs {
		if r.Intn(2) == 0 {
			x.Asks = append(x.Asks, litmus.Atom{Thread: -1, At: at, V: uint64(r.Intn(3))})
		}
	}
	for range r.Intn(3) {
		spoil(r, &x)
	}
	return x
}

// rare is n now and then, and otherwise 0.
func rare(r *rand.Rand, n int) int {
	if r.Intn(40) == 0 {
		return n
	}
	return 0
}

// less is n, or now and then 0.
func less(r *rand.Rand, n int) int {
	return n - rare(r, n)
}

// instruction has the fields that its Op needs, most of them valid.
func instruction(r *rand.Rand, locs int) litmus.Instr {
	i := litmus.Instr{Op: 1 + r.Intn(17)}
	is := func(letter string) bool { return strings.Contains(letters(i.Op), letter) }
	arg := func() litmus.Arg { return litmus.Arg{Reg: i.Op != 1 && r.Intn(2) == 0, N: uint64(r.Intn(8))} }
	if is("d") {
		i.Rd = r.Intn(8)
	}
	if is("a") {
		i.A = arg()
	}
	if is("b") {
		i.B = arg()
	}
	if is("m") {
		i.Loc, i.Dep = r.Intn(max(locs, 1)), r.Intn(9)
		i.Acq, i.Rel = is("r") && r.Intn(2) == 0, is("w") && r.Intn(2) == 0
	}
	if is("f") {
		i.Pred, i.Succ = 1+r.Intn(3), 1+r.Intn(3)
	}
	if is("s") {
		i.Skip = r.Intn(2)
	}
	return i
}

// spoil makes a fault, if there is something to spoil.
func spoil(r *rand.Rand, x *litmus.Test) {
	switch r.Intn(6) {
	case 0:
		if n := len(x.Locs); n > 0 {
			x.Locs[r.Intn(n)].Name = []string{"r1", "A", "", "e", "a"}[r.Intn(5)]
		}
	case 1:
		if n := len(x.Asks); n > 0 {
			x.Asks[r.Intn(n)] = litmus.Atom{Thread: r.Intn(8) - 3, At: r.Intn(12) - 2}
		}
	case 2:
		if n := len(x.Asks); n > 1 {
			k := r.Intn(n)
			x.Asks = slices.Insert(x.Asks, r.Intn(n), x.Asks[k])
		}
	default:
		if n := len(x.Threads); n > 0 {
			if thread := x.Threads[r.Intn(n)]; len(thread) > 0 {
				bend(r, &thread[r.Intn(len(thread))])
			}
		}
	}
}

// bend changes one field of an instruction to anything.
func bend(r *rand.Rand, i *litmus.Instr) {
	n := r.Intn(12) - 2
	arg := litmus.Arg{Reg: r.Intn(2) == 0, N: uint64(r.Intn(12))}
	switch r.Intn(11) {
	case 0:
		i.Op = r.Intn(24) - 3
	case 1:
		i.Rd = n
	case 2:
		i.Loc = n
	case 3:
		i.A = arg
	case 4:
		i.B = arg
	case 5:
		i.Acq = !i.Acq
	case 6:
		i.Rel = !i.Rel
	case 7:
		i.Dep = n
	case 8:
		i.Pred = n
	case 9:
		i.Succ = n
	default:
		i.Skip = n
	}
}
