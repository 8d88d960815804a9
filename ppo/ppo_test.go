package ppo_test

import (
	"fmt"
	"math"
	"math/rand"
	"slices"
	"strings"
	"testing"

	"ordeal/api"
	"ordeal/flow"
	"ordeal/litmus"
	"ordeal/ppo"
	"ordeal/read"
	"ordeal/rel"
)

// parsed is the test of these threads, separated by bars; their instructions are separated by strokes.
func parsed(t *testing.T, text string) litmus.Test {
	t.Helper()
	x, n, e := read.Parse("thread\n" + strings.NewReplacer("/", "\n", "|", "\nthread\n").Replace(text))
	if e != api.OK {
		t.Fatalf("%q: %d at %d", text, e, n)
	}
	return x
}

// made is a case in which all Ops read 0, and the initial value, except those for which from has another Op; all Scs succeed, unless fail is true.
func made(t *testing.T, text string, from map[int]int, fail bool) *ppo.Case {
	t.Helper()
	x := parsed(t, text)
	c := &ppo.Case{T: &x, Ops: flow.Ops(&x)}
	reads, works := make([]flow.Val, len(c.Ops)), make([]bool, len(c.Ops))
	for k := range c.Ops {
		reads[k].Known, works[k] = true, !fail
		c.From = append(c.From, -1)
	}
	for k, s := range from {
		c.From[k] = s
	}
	c.Flow = flow.Of(&x, reads, works)
	return c
}

// listed are the pairs of a relation, as in "0>1 0>2".
func listed(r rel.Rel) string {
	var words []string
	for a := range rel.Size {
		for b := range rel.Size {
			if r.Has(a, b) {
				words = append(words, fmt.Sprintf("%d>%d", a, b))
			}
		}
	}
	return strings.Join(words, " ")
}

// keeps is a text, from where its Ops read, and the pairs that are to be kept.
type keeps struct {
	text string
	from map[int]int
	want string
}

// check checks which pairs are kept.
func check(t *testing.T, list []keeps) {
	t.Helper()
	for _, k := range list {
		if got := listed(made(t, k.text, k.from, false).Order()); got != k.want {
			t.Errorf("%q, %v: %q, want %q", k.text, k.from, got, k.want)
		}
	}
}

// P17.1: the example of the chapter.
func TestExample(t *testing.T) {
	check(t, []keeps{
		{"load r0 x/store y 1", nil, ""},
		{"load r0 x/beq r0 0 0/store y 1", nil, "0>1"},
		{"load r0 x/fence r w/store y 1", nil, "0>1"},
		{"load r0 x/store y 1 dep r0", nil, "0>1"},
	})
}

// P17.1, rule 1: before a store to the same location, in the same thread, if both execute.
func TestStoreToLocation(t *testing.T) {
	check(t, []keeps{
		{"load r0 x/store x 1", nil, "0>1"},
		{"store x 1/store x 1", nil, "0>1"},
		{"store x 1/swap r0 x 1", nil, "0>1"},
		{"load r0 x/amo r1 x 1", nil, "0>1"},
		{"store x 1/sc r0 x 1", nil, "0>1"},
		{"load r0 x/store y 2/store x 1", nil, "0>2"},
		{"store x 1/store x 2/store x 3", nil, "0>1 0>2 1>2"},
		{"store x 1/load r0 x", nil, ""},
		{"store x 1/lr r0 x", nil, ""},
		{"load r0 x/store y 1", nil, ""},
		{"store x 1/store y 1", nil, ""},
		{"store x 1|store x 1", nil, ""},
		{"load r0 x|store x 1/load r0 x", nil, ""},
		{"load r0 x/beq 0 0 1/store x 1", nil, ""},
		{"beq 0 0 1/load r0 x/store x 1", nil, ""},
	})
	if got := listed(made(t, "load r0 x/sc r1 x 1", nil, true).Order()); got != "" {
		t.Errorf("a Sc that fails: %q", got)
	}
}

// P17.1, rule 2: loads of a location that read from different stores, without a store to it between them.
func TestLoadsApart(t *testing.T) {
	check(t, []keeps{
		{"load r0 x/load r1 x|store x 1|store x 2", nil, ""},
		{"load r0 x/load r1 x|store x 1|store x 2", map[int]int{0: 2}, "0>1"},
		{"load r0 x/load r1 x|store x 1|store x 2", map[int]int{1: 2}, "0>1"},
		{"load r0 x/load r1 x|store x 1|store x 2", map[int]int{0: 3, 1: 2}, "0>1"},
		{"load r0 x/load r1 x|store x 1|store x 2", map[int]int{0: 3, 1: 3}, ""},
		{"load r0 x/load r1 y|store x 1|store y 2", map[int]int{0: 2, 1: 3}, ""},
		{"load r0 x/load r1 y|store x 1|store y 2", map[int]int{0: 2}, ""},
		{"lr r0 x/lr r1 x|store x 1", map[int]int{0: 2}, "0>1"},
		{"swap r0 x 1/load r1 x|store x 1", map[int]int{1: 2}, "0>1"},
		{"swap r0 x 1/load r1 x|store x 1", map[int]int{0: 2, 1: 2}, ""},
		{"load r0 x|load r1 x|store x 1", map[int]int{0: 2}, ""},
		{"load r0 x/store x 5/load r1 x|store x 1", map[int]int{2: 3}, "0>1"},
		{"load r0 x/store x 5/load r1 x|store x 1", map[int]int{0: 3}, "0>1"},
		{"load r0 x/swap r2 x 5/load r1 x|store x 1", map[int]int{0: 3}, "0>1"},
		{"load r0 x/swap r2 x 5/load r1 x|store x 1", map[int]int{2: 3}, "0>1 1>2"},
		{"load r0 x/sc r2 x 5/load r1 x|store x 1", map[int]int{0: 3}, "0>1"},
		{"load r0 x/store y 5/load r1 x|store x 1", map[int]int{0: 3}, "0>2"},
		{"load r0 x/load r2 x/load r1 x|store x 1", map[int]int{0: 3}, "0>1 0>2"},
		{"load r0 x/load r2 x/load r1 x|store x 1", map[int]int{1: 3}, "0>1 1>2"},
		{"load r0 x/beq 0 0 1/store x 5/load r1 x|store x 1", map[int]int{0: 3}, "0>2"},
		{"load r0 x/store x 5|load r1 x/load r2 x|store x 1", map[int]int{2: 4}, "0>1 2>3"},
		{"store x 5/load r0 x/load r1 x|store x 1", map[int]int{1: 0, 2: 3}, "1>2"},
		{"store x 5/load r0 x/load r1 x|store x 1", map[int]int{1: 0, 2: 0}, ""},
	})
	if got := listed(made(t, "load r0 x/sc r2 x 5/load r1 x|store x 1", map[int]int{0: 3}, true).Order()); got != "0>2" {
		t.Errorf("over a Sc that fails: %q", got)
	}
}

// P17.1, rule 3: a Swap, an Amo or a Sc before what reads from it, whatever is between them.
func TestFromAtomics(t *testing.T) {
	check(t, []keeps{
		{"swap r0 x 1/load r1 x", map[int]int{1: 0}, "0>1"},
		{"swap r0 x 1/store x 2/load r1 x", map[int]int{2: 0}, "0>1 0>2"},
		{"amo r0 x 1/store x 2/load r1 x", map[int]int{2: 0}, "0>1 0>2"},
		{"sc r0 x 1/load r1 x", map[int]int{1: 0}, "0>1"},
		{"sc r0 x 1/lr r1 x", map[int]int{1: 0}, "0>1"},
		{"sc r0 x 1/load r1 x", nil, ""},
		{"store x 1/load r1 x", map[int]int{1: 0}, ""},
		{"load r1 x/sc r0 x 1", map[int]int{0: 1}, "0>1"},
		{"load r1 x|sc r0 x 1", map[int]int{0: 1}, ""},
	})
	// Without rules 1 and 2 nothing is kept here: what reads is before that from which it reads.
	if got := listed(made(t, "load r1 x/swap r0 x 1|load r1 x", map[int]int{2: 1}, false).Order()); got != "0>1" {
		t.Errorf("from another thread: %q", got)
	}
}

// P17.1, rule 4: a Fence of any kinds, between Ops of any kinds.
func TestFences(t *testing.T) {
	sides := map[string]string{"r": "load swap lr amo", "w": "store swap amo", "rw": "load store swap lr amo"}
	texts := map[string]string{"load": "load r5 ", "store": "store ", "swap": "swap r5 ", "lr": "lr r5 ", "amo": "amo r5 "}
	args := map[string]string{"store": " 1", "swap": " 1", "amo": " 1"}
	for pred, from := range sides {
		for succ, to := range sides {
			for a := range texts {
				for b := range texts {
					want := ""
					if slices.Contains(strings.Fields(from), a) && slices.Contains(strings.Fields(to), b) {
						want = "0>1"
					}
					text := texts[a] + "x" + args[a] + "/fence " + pred + " " + succ + "/" + texts[b] + "y" + args[b]
					c := made(t, text, nil, false)
					if listed(c.Order()) != want || listed(c.Fenced()) != want {
						t.Errorf("%q: %q, %q, want %q", text, listed(c.Order()), listed(c.Fenced()), want)
					}
				}
			}
		}
	}
	check(t, []keeps{
		{"store x 1/fence w w/sc r0 y 1", nil, "0>1"},
		{"sc r0 y 1/fence w r/load r0 x", nil, "0>1"},
		{"sc r0 y 1/fence r rw/load r0 x", nil, ""},
		{"fence rw rw/load r0 x/load r1 y/fence rw rw", nil, ""},
		{"load r0 x/load r1 y|fence rw rw", nil, ""},
		{"load r0 x/load r1 y|load r0 x/fence rw rw/load r1 y", nil, "2>3"},
		{"load r0 x/fence rw rw|load r1 y", nil, ""},
		{"load r0 x/beq 0 0 1/fence rw rw/load r1 y", nil, ""},
		{"load r0 x/beq 0 1 1/fence rw rw/load r1 y", nil, "0>1"},
		{"load r0 x/fence rw rw/beq 0 0 1/load r1 y/load r2 z", nil, "0>2"},
		{"load r0 x/load r1 y/fence r r/load r2 z/load r3 a", nil, "0>2 0>3 1>2 1>3"},
		{"load r0 x/fence r w/store y 1/fence w r/load r2 z", nil, "0>1 1>2"},
	})
}

// P17.1, rules 5 to 7: Acq before all, all before Rel, and Rel before Acq.
func TestMarked(t *testing.T) {
	check(t, []keeps{
		{"load r0 x acq/load r1 y", nil, "0>1"},
		{"load r0 x acq/store y 1", nil, "0>1"},
		{"load r0 x/load r1 y acq", nil, ""},
		{"store x 1/load r1 y acq", nil, ""},
		{"store x 1/store y 1 rel", nil, "0>1"},
		{"load r0 x/store y 1 rel", nil, "0>1"},
		{"store x 1 rel/store y 1", nil, ""},
		{"store x 1 rel/load r0 y", nil, ""},
		{"store x 1 rel/load r0 y acq", nil, "0>1"},
		{"store x 1 rel/amo r0 y 1 acq", nil, "0>1"},
		{"swap r0 x 1 rel/swap r1 y 1 acq", nil, "0>1"},
		{"swap r0 x 1 rel/swap r1 y 1", nil, ""},
		{"swap r0 x 1/swap r1 y 1 acq", nil, ""},
		{"amo r0 x 1 acq/lr r1 y", nil, "0>1"},
		{"lr r0 x acq/lr r1 y", nil, "0>1"},
		{"load r0 x/amo r1 y 1 rel", nil, "0>1"},
		{"load r0 x/sc r1 y 1 rel", nil, "0>1"},
		{"load r0 x/load r1 y acq/load r2 z", nil, "1>2"},
		{"store x 1/store y 1 rel/store z 1", nil, "0>1"},
		{"load r0 x acq|load r1 y", nil, ""},
		{"load r0 x|store y 1 rel", nil, ""},
		{"load r0 x acq/beq 0 0 1/load r1 y/load r2 z", nil, "0>2"},
	})
	if got := listed(made(t, "load r0 x/sc r1 y 1 rel/load r2 z", nil, true).Order()); got != "" {
		t.Errorf("a Sc that fails: %q", got)
	}
}

// P17.1, rule 8: an Lr before the Sc that is paired with it.
func TestPaired(t *testing.T) {
	check(t, []keeps{
		{"lr r0 x/sc r1 x 1", nil, "0>1"},
		{"lr r0 x/load r2 y/sc r1 x 1", nil, "0>2"},
		{"lr r0 x/sc r1 y 1", nil, ""},
		{"lr r0 x|sc r1 x 1", nil, ""},
	})
	if got := listed(made(t, "lr r0 x/sc r1 x 1", nil, true).Order()); got != "" {
		t.Errorf("a Sc that fails: %q", got)
	}
}

// P17.1, rules 9 to 11: what depends on a by its address, its value, or, if it is a store, by branches.
func TestDependent(t *testing.T) {
	check(t, []keeps{
		{"load r0 x/load r1 y dep r0", nil, "0>1"},
		{"load r0 x/load r1 y dep r2", nil, ""},
		{"load r0 x/xor r2 r0 r0/load r1 y dep r2", nil, "0>1"},
		{"load r0 x/li r0 0/load r1 y dep r0", nil, ""},
		{"load r0 x|load r1 y dep r0", nil, ""},
		{"amo r0 x 1/swap r1 y 1 dep r0", nil, "0>1"},
		{"sc r0 x 1/load r1 y dep r0", nil, "0>1"},
		{"load r0 x/store y r0", nil, "0>1"},
		{"load r0 x/and r1 r0 0/store y r1", nil, "0>1"},
		{"load r0 x/load r0 y/store z r0", nil, "1>2"},
		{"load r0 x/swap r1 y r0", nil, "0>1"},
		{"load r0 x/amo r1 y r0", nil, "0>1"},
		{"load r0 x/sc r1 y r0", nil, "0>1"},
		{"load r0 x/beq r0 1 0/store y 1", nil, "0>1"},
		{"load r0 x/bne 1 r0 0/store y 1", nil, "0>1"},
		{"load r0 x/beq r0 1 0/amo r1 y 1", nil, "0>1"},
		{"load r0 x/beq r0 1 0/sc r1 y 1", nil, "0>1"},
		{"load r0 x/beq r0 1 0/load r1 y", nil, ""},
		{"load r0 x/beq r0 1 0/lr r1 y", nil, ""},
		{"load r0 x/load r1 y/beq r0 r1 0/store z 1", nil, "0>2 1>2"},
		{"load r0 x/beq r0 1 1/load r1 y/store z 1", nil, "0>2"},
		{"load r0 x/beq r0 0 1/beq r0 r0 0/beq 0 0 0/store z 1", nil, "0>1"},
		{"load r0 x/store y 1/beq r0 1 0", nil, ""},
		{"load r0 x/beq 0 0 1/beq r0 0 0/store y 1", nil, ""},
	})
	if got := listed(made(t, "sc r0 x 1/load r1 y dep r0/store z r0", nil, true).Order()); got != "" {
		t.Errorf("a Sc that fails: %q", got)
	}
}

// P17.1, rule 12: before a load that reads from a store of the thread between them whose address or value depends on a.
func TestThroughStores(t *testing.T) {
	check(t, []keeps{
		{"load r0 x/store y r0/load r1 y", map[int]int{2: 1}, "0>1 0>2"},
		{"load r0 x/store y 1 dep r0/load r1 y", map[int]int{2: 1}, "0>1 0>2"},
		{"load r0 x/store y r0/load r1 y", nil, "0>1"},
		{"load r0 x/store y r0/load r1 y|store y 3", map[int]int{2: 3}, "0>1"},
		{"load r0 x/store y 1/load r1 y", map[int]int{2: 1}, ""},
		{"load r0 x/beq r0 1 0/store y 1/load r1 y", map[int]int{2: 1}, "0>1"},
		{"load r0 x/amo r2 y r0/load r1 y", map[int]int{2: 1}, "0>1 0>2 1>2"},
		{"load r0 x/sc r2 y r0/load r1 y", map[int]int{2: 1}, "0>1 0>2 1>2"},
		{"load r0 x/store y r0/store y 2/load r1 y", map[int]int{3: 1}, "0>1 0>3 1>2"},
		{"load r0 x/store y r0/store y 2/load r1 y", map[int]int{3: 2}, "0>1 1>2"},
		{"load r0 x/load r1 y/store y r0", map[int]int{1: 2}, "0>2 1>2"},
		{"load r0 x/store y r0|load r1 y", map[int]int{2: 1}, "0>1"},
	})
}

// P17.1, rule 13: before a store behind an Op whose address depends on a.
func TestBehindPlaces(t *testing.T) {
	check(t, []keeps{
		{"load r0 x/load r1 y dep r0/store z 1", nil, "0>1 0>2"},
		{"load r0 x/store y 1 dep r0/store z 1", nil, "0>1 0>2"},
		{"load r0 x/load r1 y dep r0/amo r2 z 1", nil, "0>1 0>2"},
		{"load r0 x/load r1 y dep r0/sc r2 z 1", nil, "0>1 0>2"},
		{"load r0 x/load r1 y dep r0/store z 1/store a 1", nil, "0>1 0>2 0>3"},
		{"load r0 x/load r1 y dep r0/load r2 z", nil, "0>1"},
		{"load r0 x/store y r0/store z 1", nil, "0>1"},
		{"load r0 x/store z 1/load r1 y dep r0", nil, "0>2"},
		{"load r0 x/beq 0 0 1/load r1 y dep r0/store z 1", nil, ""},
		{"load r0 x/load r1 y dep r0|store z 1", nil, "0>1"},
	})
}

// P17.1: the sets and relations of a case.
func TestParts(t *testing.T) {
	const text = "load r0 x/store y 1/swap r1 x 1/fence r w/load r2 x|beq 0 0 1/store x 2/lr r3 x/sc r4 x 1"
	c := made(t, text, map[int]int{3: 2, 5: 2}, false)
	sets := []uint16{c.Runs(), c.Reads(), c.Writes()}
	if want := []uint16{0b1101111, 0b0101101, 0b1000110}; !slices.Equal(sets, want) {
		t.Errorf("%b, want %b", sets, want)
	}
	// An Op that does not execute has a location too, and each Op has that of itself.
	const atX = 0b1111101
	loc := rel.Cross(atX, atX).With(1, 1)
	if c.Loc() != loc || listed(c.Po()) != "0>1 0>2 0>3 1>2 1>3 2>3 5>6" || listed(c.Inner()) != "2>3" || listed(c.Fenced()) != "" {
		t.Errorf("%q, %q, %q, %q", listed(c.Loc()), listed(c.Po()), listed(c.Inner()), listed(c.Fenced()))
	}
	c = made(t, text, nil, true)
	if c.Runs() != 0b0101111 || c.Writes() != 0b0000110 || c.Loc() != loc || listed(c.Po()) != "0>1 0>2 0>3 1>2 1>3 2>3" || listed(c.Inner()) != "" {
		t.Errorf("with a Sc that fails: %b, %b, %q, %q", c.Runs(), c.Writes(), listed(c.Po()), listed(c.Inner()))
	}
	if c = made(t, "load r0 x|store x 1", map[int]int{0: 1}, false); listed(c.Inner()) != "" {
		t.Errorf("from another thread: %q", listed(c.Inner()))
	}
	if c = made(t, "beq 0 0 1/store x 1/load r0 x", map[int]int{1: 0}, false); listed(c.Inner()) != "" {
		t.Errorf("from what does not execute: %q", listed(c.Inner()))
	}
}

// P17.1: Those asks about each Op that executes, and about no other.
func TestThose(t *testing.T) {
	c := made(t, "load r0 x/store y 7/beq 0 0 1/store y 8|swap r1 x 9/li r0 1", nil, false)
	var asked []uint64
	set := c.Those(func(x litmus.Instr) bool {
		asked = append(asked, x.A.N)
		return x.A.N == 0 || x.A.N == 9
	})
	if slices.Sort(asked); set != 0b1001 || !slices.Equal(asked, []uint64{0, 7, 9}) {
		t.Errorf("%b, asked %v", set, asked)
	}
	if c.Those(func(litmus.Instr) bool { return false }) != 0 || c.Those(nil) != 0 {
		t.Error("Ops for which nothing holds")
	}
}

// P17.1: what is not known to execute is not kept, before or behind anything.
func TestUnknown(t *testing.T) {
	x := parsed(t, "store x 1/load r0 y acq/beq r0 0 0/store x 2/fence rw rw/load r1 y")
	c := &ppo.Case{T: &x, Ops: flow.Ops(&x), From: []int{-1, -1, -1, -1}}
	c.Flow = flow.Of(&x, make([]flow.Val, 4), make([]bool, 4))
	if listed(c.Order()) != "" || listed(c.Po()) != "0>1" || c.Runs() != 3 || c.Writes() != 1 {
		t.Errorf("%q, %q, %b", listed(c.Order()), listed(c.Po()), c.Runs())
	}
	c.Flow = flow.Of(&x, []flow.Val{1: {Known: true}, 3: {}}, make([]bool, 4))
	if listed(c.Order()) != "0>2 0>3 1>2 1>3 2>3" {
		t.Errorf("%q", listed(c.Order()))
	}
}

// P17.1: random cases are judged as pair by pair.
func TestModel(t *testing.T) {
	r := rand.New(rand.NewSource(1))
	for range 40000 {
		c := randomCase(r, random(r, 8))
		m := model{c}
		isOneThread := func(a, b int) bool { return c.Ops[a].Thread == c.Ops[b].Thread }
		isRun := func(k int) bool { return c.Flow.State[k] == flow.Runs }
		for _, p := range []struct {
			name      string
			got, want rel.Rel
		}{
			{"Order", c.Order(), m.related(m.isKept)},
			{"Po", c.Po(), m.related(m.precedes)},
			{"Loc", c.Loc(), m.related(m.isSameLoc)},
			{"Fenced", c.Fenced(), m.related(m.isFenced)},
			{"Inner", c.Inner(), m.related(func(a, b int) bool { return isRun(a) && isRun(b) && isOneThread(a, b) && c.From[b] == a })},
		} {
			if p.got != p.want {
				t.Fatalf("%s: %+v, %+v: %q, want %q", p.name, *c, *c.T, listed(p.got), listed(p.want))
			}
		}
		if c.Runs() != m.members(func(int) bool { return true }) || c.Reads() != m.members(m.loads) || c.Writes() != m.members(m.stores) {
			t.Fatalf("%+v, %+v: %b, %b, %b", *c, *c.T, c.Runs(), c.Reads(), c.Writes())
		}
	}
}

// P17.2: what is kept is part of program order; with fences between all Ops it is all of it.
func TestWithinProgramOrder(t *testing.T) {
	r := rand.New(rand.NewSource(2))
	less := 0
	for range 10000 {
		c := randomCase(r, random(r, 8))
		if c.Order().Less(c.Po()) != (rel.Rel{}) {
			t.Fatalf("%+v, %+v: %q", *c, *c.T, listed(c.Order()))
		}
		if c.Order() != c.Po() {
			less++
		}
		x := random(r, 4)
		fence(&x)
		if c = randomCase(r, x); x.Check() != api.OK || c.Order() != c.Po() {
			t.Fatalf("%+v, %+v: %q, want %q", *c, *c.T, listed(c.Order()), listed(c.Po()))
		}
	}
	if less < 1000 {
		t.Errorf("only in %d cases less is kept", less)
	}
}

// fence puts a Fence of both before both behind each instruction.
func fence(x *litmus.Test) {
	for i, list := range x.Threads {
		x.Threads[i] = nil
		for _, instr := range list {
			instr.Skip *= 2
			x.Threads[i] = append(x.Threads[i], instr, litmus.Instr{Op: litmus.Fence, Pred: 3, Succ: 3})
		}
	}
}

// P17.1, K3 and K4: the calls change nothing, and return the same again.
func TestUnchanged(t *testing.T) {
	r := rand.New(rand.NewSource(3))
	for range 300 {
		c := randomCase(r, random(r, 8))
		tell := func() string { return fmt.Sprint(*c.T, c.Ops, *c.Flow, c.From) }
		all := func() string {
			return fmt.Sprint(c.Runs(), c.Reads(), c.Writes(), c.Po(), c.Loc(), c.Inner(), c.Fenced(), c.Order())
		}
		before, first := tell(), all()
		if again := all(); again != first || tell() != before {
			t.Fatalf("%s, %s: %s, %s", before, first, tell(), again)
		}
	}
}

// K7: cases that are none do no harm.
func TestInvalid(t *testing.T) {
	bad := []int{math.MinInt, -2, -1, 0, 1, 7, 8, 16, 64, math.MaxInt}
	for _, n := range bad {
		for _, size := range []int{0, 1, 3, 20, 70} {
			x := litmus.Test{Threads: [][]litmus.Instr{slices.Repeat([]litmus.Instr{{Op: litmus.Fence, Pred: n, Succ: n}, {Op: litmus.Load, Loc: n, Dep: n}}, size)}}
			for _, f := range []flow.Flow{{}, {State: slices.Repeat([]int{flow.Runs}, 2*size)}, {State: slices.Repeat([]int{flow.Runs}, 4), Pair: bad, Place: []uint64{math.MaxUint64}, Left: []uint64{5}}} {
				c := ppo.Case{T: &x, Ops: slices.Repeat([]flow.Op{{At: 1}, {Thread: n, At: 1}, {At: n}}, size), Flow: &f, From: bad}
				for _, r := range []rel.Rel{c.Order(), c.Po(), c.Loc(), c.Inner(), c.Fenced()} {
					r.Count()
				}
				c.From = nil
				c.Order()
				c.Runs()
			}
		}
	}
	none := ppo.Case{T: &litmus.Test{}, Flow: &flow.Flow{}}
	if none.Runs() != 0 || none.Order() != (rel.Rel{}) {
		t.Error("a case of nothing")
	}
}
