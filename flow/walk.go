package flow

import (
	"slices"

	"ordeal/api"
	"ordeal/litmus"
	"ordeal/word"
)

// walker executes a thread, as far as it is known, and notes in flow what is known.
type walker struct {
	flow   *Flow
	ops    []Op
	reads  []Val
	works  []bool
	thread int
	regs   [api.MaxRegs]content
	path   uint64      // the Ops on which the branches depend that were reached
	lr     reservation // what the next Sc may be paired with
}

// content is what a register or an Arg has, and the Ops on which it depends.
type content struct {
	val  Val
	from uint64
}

// reservation is an Lr, as its number plus 1 (0: none), and its location.
type reservation struct {
	op, loc int
}

// walk executes the instructions of the thread, up to a branch that is unknown.
func (w *walker) walk(list []litmus.Instr) {
	for i := range w.regs {
		w.regs[i] = number(0)
	}
	skipped := 0
	for at, x := range list {
		switch {
		case skipped > 0:
			skipped--
			w.leave(at, x)
		case x.IsMemory():
			w.access(w.op(at), x)
		case x.Op == litmus.Beq, x.Op == litmus.Bne:
			taken := w.branch(x)
			if !taken.Known {
				return
			}
			if taken.V == 1 {
				skipped = x.Skip
			}
		case x.Op != litmus.Fence:
			w.compute(x)
		}
	}
}

// op: the number of the Op at a place of the thread.
func (w *walker) op(at int) int {
	return slices.Index(w.ops, Op{Thread: w.thread, At: at})
}

// leave notes that a branch skips an instruction.
func (w *walker) leave(at int, x litmus.Instr) {
	w.flow.Left[w.thread] = word.With(w.flow.Left[w.thread], at)
	if x.IsMemory() {
		w.flow.State[w.op(at)] = LeftOut
	}
}

// branch: 1 if a branch skips, 0 if it does not.
func (w *walker) branch(x litmus.Instr) Val {
	a, b := w.arg(x.A), w.arg(x.B)
	w.path |= a.from | b.from
	return combined(a.val, b.val, func(a, b uint64) uint64 {
		if (a == b) == (x.Op == litmus.Beq) {
			return 1
		}
		return 0
	})
}

// compute executes an instruction from Li to Shr.
func (w *walker) compute(x litmus.Instr) {
	a, b := w.arg(x.A), w.arg(x.B)
	if x.Op == litmus.Li {
		w.regs[x.Rd] = a
		return
	}
	reckoned := combined(a.val, b.val, func(a, b uint64) uint64 { return Reckon(x.Op, a, b) })
	w.regs[x.Rd] = content{val: reckoned, from: a.from | b.from}
}

// access executes Op k.
func (w *walker) access(k int, x litmus.Instr) {
	kind := x.Of()
	if x.Op == litmus.Sc {
		w.pair(k, x)
		if !w.succeeds(k) {
			w.flow.State[k] = LeftOut
			w.regs[x.Rd] = number(1)
			return
		}
	}
	// A and the address are what they are before Rd is set.
	w.flow.State[k] = Runs
	w.flow.Path[k] = w.path
	if x.Dep > 0 {
		w.flow.Place[k] = w.regs[x.Dep-1].from
	}
	if kind.Writes {
		w.write(k, x)
	}
	switch {
	case kind.Reads:
		w.regs[x.Rd] = content{val: w.read(k), from: word.With(0, k)}
	case x.Op == litmus.Sc:
		w.regs[x.Rd] = content{val: known(0), from: word.With(0, k)}
	}
	if x.Op == litmus.Lr {
		w.lr = reservation{op: k + 1, loc: x.Loc}
	}
}

// pair notes with which Lr a Sc is paired; the next Sc is not paired with that one.
func (w *walker) pair(k int, x litmus.Instr) {
	if w.lr.loc == x.Loc {
		w.flow.Pair[k] = w.lr.op
	}
	w.lr = reservation{}
}

// write notes what Op k writes, and on what that depends.
func (w *walker) write(k int, x litmus.Instr) {
	a := w.arg(x.A)
	w.flow.Value[k] = a.from
	w.flow.Write[k] = a.val
	if x.Op == litmus.Amo {
		w.flow.Write[k] = combined(a.val, w.read(k), func(a, b uint64) uint64 { return a + b })
	}
}

// read: the value that Op k reads.
func (w *walker) read(k int) Val {
	if k >= len(w.reads) || !w.reads[k].Known {
		return Val{}
	}
	return w.reads[k]
}

// succeeds: whether Sc k does.
func (w *walker) succeeds(k int) bool {
	return k < len(w.works) && w.works[k]
}

// arg: the content of an Arg.
func (w *walker) arg(a litmus.Arg) content {
	if a.Reg {
		return w.regs[a.N]
	}
	return number(a.N)
}

// values: what the registers have.
func (w *walker) values() [api.MaxRegs]Val {
	var list [api.MaxRegs]Val
	for i, reg := range w.regs {
		list[i] = reg.val
	}
	return list
}

// number is a number that depends on nothing.
func number(v uint64) content {
	return content{val: known(v)}
}

// known is a number that is known.
func known(v uint64) Val {
	return Val{Known: true, V: v}
}

// combined is what two numbers make, unknown if one of them is.
func combined(a, b Val, join func(a, b uint64) uint64) Val {
	if !a.Known || !b.Known {
		return Val{}
	}
	return known(join(a.V, b.V))
}
