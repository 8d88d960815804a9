package ppo

import (
	"ordeal/litmus"
	"ordeal/rel"
)

// Order: what is kept: the thirteen rules.
func (c *Case) Order() rel.Rel {
	rules := []rel.Rel{
		c.toStores(), c.loadsApart(), c.fromAtomics(),
		c.Fenced(), c.marked(), c.paired(),
		c.dependent(), c.throughStores(), c.behindPlaces(),
	}
	var kept rel.Rel
	for _, rule := range rules {
		kept = kept.Or(rule)
	}
	// A rule may hold for more than a before b in a thread.
	return kept.And(c.Po())
}

// toStores is rule 1: before a store to the same location.
func (c *Case) toStores() rel.Rel {
	return c.Po().And(c.Loc()).And(rel.Cross(c.Runs(), c.Writes()))
}

// loadsApart is rule 2: loads of the same location that read from different stores, without a store between them.
func (c *Case) loadsApart() rel.Rel {
	near := c.Po().And(c.Loc())
	loads := near.And(rel.Cross(c.Reads(), c.Reads()))
	overStore := c.toStores().Then(near)
	alike := c.pairs(func(a, b int) bool { return c.from(a) == c.from(b) })
	return loads.Less(overStore).Less(alike)
}

// fromAtomics is rule 3: before a load that reads from it.
func (c *Case) fromAtomics() rel.Rel {
	atomics := c.Those(func(x litmus.Instr) bool {
		return x.Op == litmus.Swap || x.Op == litmus.Amo || x.Op == litmus.Sc
	})
	return c.Inner().And(rel.Cross(atomics, c.Reads()))
}

// marked is rules 5 to 7: what Acq and Rel keep.
func (c *Case) marked() rel.Rel {
	acq := c.Those(func(x litmus.Instr) bool { return x.Acq })
	rls := c.Those(func(x litmus.Instr) bool { return x.Rel })
	either, all := acq|rls, c.Runs()
	return rel.Cross(acq, all).Or(rel.Cross(all, rls)).Or(rel.Cross(either, either))
}

// paired is rule 8: an Lr before the Sc that is paired with it.
func (c *Case) paired() rel.Rel {
	return c.pairs(func(a, b int) bool { return at(c.Flow.Pair, b) == a+1 })
}

// dependent is rules 9 to 11: what depends on a.
func (c *Case) dependent() rel.Rel {
	branched := c.on(c.Flow.Path).And(rel.Cross(c.Runs(), c.Writes()))
	return c.on(c.Flow.Place).Or(c.on(c.Flow.Value)).Or(branched)
}

// throughStores is rule 12: before a load that reads from a store of the thread that depends on a.
func (c *Case) throughStores() rel.Rel {
	stores := c.on(c.Flow.Place).Or(c.on(c.Flow.Value)).And(rel.Cross(c.Runs(), c.Writes()))
	// The store is to be between both: what it reads from may be anywhere.
	return stores.Then(c.Inner().And(c.Po()))
}

// behindPlaces is rule 13: before a store behind an Op whose address depends on a.
func (c *Case) behindPlaces() rel.Rel {
	return c.on(c.Flow.Place).Then(c.Po()).And(rel.Cross(c.Runs(), c.Writes()))
}

// on relates a to b if b depends on a: Place, Value or Path of all Ops.
func (c *Case) on(depends []uint64) rel.Rel {
	return c.pairs(func(a, b int) bool { return at(depends, b)>>a&1 == 1 })
}
