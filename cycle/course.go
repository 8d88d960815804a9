package cycle

import (
	"slices"

	"ordeal/api"
	"ordeal/litmus"
)

// maxStores is the most stores of a location: of more, the last one does not tell in which order the others were.
const maxStores = 2

// spare is the register of what a store writes by a value edge.
const spare = api.MaxRegs - 1

// event is a load or a store of a test.
type event struct {
	edge   Edge // the one that leads to it
	thread int
	loc    int
	loads  int    // those before it in its thread; a load goes to the register of that number
	value  uint64 // what it writes, or should read
}

// course is the events of a cycle, with their numbers of threads and of locations.
type course struct {
	events  []event
	threads int
	locs    int
	stores  [api.MaxLocs]uint64 // of each location
}

// rotated: a cycle whose first edge has gone to the end until the last one is outer.
func rotated(l []Edge) []Edge {
	l = slices.Clone(l)
	for !l[len(l)-1].Outer() {
		l = append(l[1:], l[0])
	}
	return l
}

// placed: the events of a cycle whose last edge is outer, each in its thread and at its location.
func placed(l []Edge) []event {
	last := len(l) - 1
	locs := len(l) - outers(l)
	x := event{edge: l[last]}
	list := []event{x}
	for _, e := range l[:last] {
		if x.isLoad() {
			x.loads++
		}
		x.edge = e
		if e.Outer() {
			x.thread++
			x.loads = 0
		} else {
			x.loc = (x.loc + 1) % locs
		}
		list = append(list, x)
	}
	return list
}

// number determines what each event writes, or should read.
func (c *course) number() {
	// The events of location 0 may go on across the end of the cycle. From one on that an inner edge leads to, those of each location follow one another.
	first := slices.IndexFunc(c.events, func(x event) bool { return !x.edge.Outer() })
	for i := range c.events {
		x := &c.events[(first+i)%len(c.events)]
		if !x.isLoad() {
			c.stores[x.loc]++
		}
		x.value = c.stores[x.loc]
	}
}

// isCrowded: whether a location has too many stores.
func (c *course) isCrowded() bool {
	return slices.Max(c.stores[:]) > maxStores
}

// test: the test of numbered events.
func (c *course) test() litmus.Test {
	t := litmus.Test{Threads: make([][]litmus.Instr, c.threads)}
	for loc := range c.locs {
		t.Locs = append(t.Locs, litmus.Init{Name: string(rune('a' + loc))})
	}
	for _, x := range c.events {
		t.Threads[x.thread] = append(t.Threads[x.thread], x.instructions()...)
		if x.isLoad() {
			t.Asks = append(t.Asks, litmus.Atom{Thread: x.thread, At: x.loads, V: x.value})
		}
	}
	for loc := range c.locs {
		if c.stores[loc] == maxStores {
			t.Asks = append(t.Asks, litmus.Atom{Thread: -1, At: loc, V: maxStores})
		}
	}
	return t
}

// isLoad: whether an event is a load, and not a store.
func (x event) isLoad() bool {
	return x.edge.To == R
}

// instructions: that of an event, and before it those by which its edge holds.
func (x event) instructions() []litmus.Instr {
	own := x.instruction()
	// The edges that need it begin at a load, which is then the last one before the event.
	last := x.loads - 1
	source := register(last)
	switch x.edge.Kind {
	case Fence:
		both := litmus.Reads | litmus.Writes
		return []litmus.Instr{{Op: litmus.Fence, Pred: both, Succ: both}, own}
	case Place:
		own.Dep = last + 1
	case Value:
		zero := litmus.Instr{Op: litmus.Xor, Rd: spare, A: source, B: source}
		value := litmus.Instr{Op: litmus.Or, Rd: spare, A: register(spare), B: own.A}
		own.A = register(spare)
		return []litmus.Instr{zero, value, own}
	case Path:
		return []litmus.Instr{{Op: litmus.Beq, A: source, B: source}, own}
	}
	return []litmus.Instr{own}
}

// instruction: the load or the store of an event.
func (x event) instruction() litmus.Instr {
	if x.isLoad() {
		return litmus.Instr{Op: litmus.Load, Rd: x.loads, Loc: x.loc}
	}
	return litmus.Instr{Op: litmus.Store, Loc: x.loc, A: litmus.Arg{N: x.value}}
}

// register is the content of a register.
func register(n int) litmus.Arg {
	return litmus.Arg{Reg: true, N: uint64(n)}
}
