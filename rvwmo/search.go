package rvwmo

import (
	"ordeal/flow"
	"ordeal/litmus"
	"ordeal/ppo"
)

// From which Op one reads, if from none.
const (
	initial   = -1 // the initial value
	undecided = -2
)

// search chooses which Scs of a test succeed, and from which Op each one that reads reads.
type search struct {
	test  *litmus.Test
	ops   []flow.Op
	works []bool
	from  []int
	found func(c *ppo.Case)
}

// eachCase calls found with the case of each run of a test, whatever the order of its stores and whether it is permitted.
func eachCase(t *litmus.Test, found func(c *ppo.Case)) {
	ops := flow.Ops(t)
	s := search{test: t, ops: ops, works: make([]bool, len(ops)), from: make([]int, len(ops)), found: found}
	for k := range s.from {
		s.from[k] = undecided
	}
	s.chooseScs(0)
}

// chooseScs considers all choices of which Scs from Op k on succeed.
func (s *search) chooseScs(k int) {
	if k == len(s.ops) {
		s.chooseReads()
		return
	}
	s.chooseScs(k + 1)
	if s.instr(k).Op == litmus.Sc {
		s.works[k] = true
		s.chooseScs(k + 1)
		s.works[k] = false
	}
}

// chooseReads considers all choices of from where the Ops read that are undecided. It decides only on one that is known to execute, so that no choice makes a difference for one that does not.
func (s *search) chooseReads() {
	f, reads := s.compute()
	if !s.scsHold(f) {
		return
	}
	k := s.nextRead(f)
	if k < 0 {
		// Where all that is read is known, the threads are known to their ends.
		if s.areKnown(f, reads) {
			s.found(s.made(f))
		}
		return
	}
	for from := initial; from < len(s.ops); from++ {
		if from == initial || s.mayRead(f, k, from) {
			s.from[k] = from
			s.chooseReads()
		}
	}
	s.from[k] = undecided
}

// compute: the flow, and what the Ops read, as far as it follows from the initial values.
func (s *search) compute() (*flow.Flow, []flow.Val) {
	reads := make([]flow.Val, len(s.ops))
	for k, from := range s.from {
		if from == initial {
			reads[k] = flow.Val{Known: true, V: s.test.Locs[s.instr(k).Loc].V}
		}
	}
	for {
		f := flow.Of(s.test, reads, s.works)
		if !s.learn(f, reads) {
			return f, reads
		}
	}
}

// learn adds to the values that are read those that are written by now, and returns whether there are any.
func (s *search) learn(f *flow.Flow, reads []flow.Val) bool {
	isNew := false
	for k, from := range s.from {
		if from >= 0 && !reads[k].Known && f.Write[from].Known {
			reads[k] = f.Write[from]
			isNew = true
		}
	}
	return isNew
}

// scsHold: whether each Sc that is to succeed is paired and executes, as far as it is known.
func (s *search) scsHold(f *flow.Flow) bool {
	for k, works := range s.works {
		isAlone := f.State[k] == flow.Runs && f.Pair[k] == 0
		if works && (isAlone || f.State[k] == flow.LeftOut) {
			return false
		}
	}
	return true
}

// nextRead: an Op that executes and reads, and is undecided; -1 if there is none.
func (s *search) nextRead(f *flow.Flow) int {
	for k, from := range s.from {
		if from == undecided && s.reads(f, k) {
			return k
		}
	}
	return -1
}

// areKnown: whether the values of all Ops that execute and read are known. They are not where values depend on each other in a circle, even if the registers are known at the end.
func (s *search) areKnown(f *flow.Flow, reads []flow.Val) bool {
	for k := range s.ops {
		if s.reads(f, k) && !reads[k].Known {
			return false
		}
	}
	return true
}

// reads: whether Op k executes and reads.
func (s *search) reads(f *flow.Flow, k int) bool {
	return f.State[k] == flow.Runs && s.instr(k).Of().Reads
}

// mayRead: whether Op k may read from another one, which may yet turn out not to execute. From itself it may not: it does not precede itself.
func (s *search) mayRead(f *flow.Flow, k, from int) bool {
	x, y := s.instr(k), s.instr(from)
	switch {
	case y.Loc != x.Loc || !y.Of().Writes || f.State[from] == flow.LeftOut:
		return false
	case s.ops[from].Thread == s.ops[k].Thread:
		return from < k
	}
	return true
}

func (s *search) instr(k int) litmus.Instr {
	return s.test.Threads[s.ops[k].Thread][s.ops[k].At]
}

// made is the case of a flow in which all that executes is decided.
func (s *search) made(f *flow.Flow) *ppo.Case {
	c := &ppo.Case{T: s.test, Ops: s.ops, Flow: f}
	for _, from := range s.from {
		c.From = append(c.From, max(from, initial))
	}
	return c
}
