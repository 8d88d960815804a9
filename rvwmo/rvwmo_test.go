package rvwmo_test

import (
	"fmt"
	"maps"
	"math"
	"math/rand"
	"slices"
	"strings"
	"testing"

	"ordeal/api"
	"ordeal/flow"
	"ordeal/litmus"
	"ordeal/outcome"
	"ordeal/ppo"
	"ordeal/read"
	"ordeal/rel"
	"ordeal/rvwmo"
	"ordeal/seqc"
	"ordeal/tso"
)

// parsed is the test with these initial values and threads, which bars separate; strokes separate the instructions of each.
func parsed(t *testing.T, init, threads string) litmus.Test {
	t.Helper()
	s := "init " + init + "\nthread\n" + strings.NewReplacer("/", "\n", "|", "\nthread\n").Replace(threads)
	x, n, e := read.Parse(s)
	if e != api.OK {
		t.Fatalf("%q: %d at %d", s, e, n)
	}
	return x
}

// numbers is a state as its numbers only.
func numbers(s outcome.State) string {
	return strings.Trim(fmt.Sprint(s.V[:s.N]), "[]")
}

// texts are the states of a test, in their order, each as its numbers.
func texts(t *testing.T, x litmus.Test) []string {
	t.Helper()
	set := rvwmo.States(&x)
	if !set.Good(len(outcome.Slots(&x))) {
		t.Fatalf("%+v: %v", x, set)
	}
	var list []string
	for _, state := range set {
		list = append(list, numbers(state))
	}
	return list
}

// check checks all states of a test; they are separated by commas.
func check(t *testing.T, threads, want string) {
	t.Helper()
	if got := strings.Join(texts(t, parsed(t, "", threads)), ", "); got != want {
		t.Errorf("%q: %s, want %s", threads, got, want)
	}
}

// expected is a test, a state of it as its numbers, and whether it may end with it.
type expected struct {
	threads, state string
	may            bool
}

// judge checks whether tests may end with states.
func judge(t *testing.T, list []expected) {
	t.Helper()
	for _, c := range list {
		if got := texts(t, parsed(t, "", c.threads)); slices.Contains(got, c.state) != c.may {
			t.Errorf("%q: %s, want %v: %q", c.threads, c.state, c.may, got)
		}
	}
}

// P18.1: the example of the chapter, and what of it is enough to forbid the state.
func TestMessagePassing(t *testing.T) {
	check(t, "store x 1/store y 1|load r0 y/load r1 x", "0 0 1 1, 0 1 1 1, 1 0 1 1, 1 1 1 1")
	check(t, "store x 1/fence w w/store y 1|load r0 y/fence r r/load r1 x", "0 0 1 1, 0 1 1 1, 1 1 1 1")
	const stale = "1 0 1 1"
	judge(t, []expected{
		{"store x 1/fence w w/store y 1|load r0 y/load r1 x", stale, true},
		{"store x 1/store y 1|load r0 y/fence r r/load r1 x", stale, true},
		{"store x 1/fence r w/store y 1|load r0 y/fence r r/load r1 x", stale, true},
		{"store x 1/fence w w/store y 1|load r0 y/fence w r/load r1 x", stale, true},
		{"store x 1/fence w w/store y 1|load r0 y/load r1 x dep r0", stale, false},
		{"store x 1/fence w w/store y 1|load r0 y/beq r0 1 0/load r1 x", stale, true},
		{"store x 1/store y 1 rel|load r0 y acq/load r1 x", stale, false},
		{"store x 1 rel/store y 1|load r0 y acq/load r1 x", stale, true},
		{"store x 1/store y 1 rel|load r0 y/load r1 x acq", stale, true},
		{"store x 1/store y 1 rel|load r0 y/load r1 x", stale, true},
		{"store x 1/store y 1|load r0 y acq/load r1 x", stale, true},
	})
}

// P18.1: the known shapes of two threads.
func TestTwoThreads(t *testing.T) {
	judge(t, []expected{
		{"store x 1/load r0 y|store y 1/load r0 x", "0 0 1 1", true},
		{"store x 1/fence w r/load r0 y|store y 1/fence w r/load r0 x", "0 0 1 1", false},
		{"store x 1/fence w r/load r0 y|store y 1/load r0 x", "0 0 1 1", true},
		{"store x 1 rel/load r0 y acq|store y 1 rel/load r0 x acq", "0 0 1 1", false},
		{"swap r1 x 1/load r0 y|swap r1 y 1/load r0 x", "0 0 0 0 1 1", true},
		{"load r0 x/store y 1|load r0 y/store x 1", "1 1 1 1", true},
		{"load r0 x/fence r w/store y 1|load r0 y/store x 1", "1 1 1 1", true},
		{"load r0 x/fence r w/store y 1|load r0 y/fence r w/store x 1", "1 1 1 1", false},
		{"load r0 x acq/store y 1|load r0 y/store x 1 rel", "1 1 1 1", false},
		{"load r0 x/beq r0 r0 0/store y 1|load r0 y/store x 1 dep r0", "1 1 1 1", false},
		{"load r0 x/xor r1 r0 r0/add r1 r1 1/store y r1|load r0 y/fence r w/store x 1", "1 1 1 1 1", false},
		{"load r0 x/load r1 z dep r0/store y 1|load r0 y/fence r w/store x 1", "1 0 1 1 1 0", false},
		{"load r0 x/load r1 z/store y 1|load r0 y/fence r w/store x 1", "1 0 1 1 1 0", true},
		{"store x 1/store y 2|store y 1/store x 2", "1 1", true},
		{"store x 1/fence w w/store y 2|store y 1/fence w w/store x 2", "1 1", false},
		{"store x 1/fence w w/store y 1|store y 2/fence w r/load r0 x", "0 1 2", false},
		{"store x 1/store y 1|store y 2/fence w r/load r0 x", "0 1 2", true},
		{"store x 2/fence w w/store y 1|load r0 y/fence r w/store x 1", "1 2 1", false},
		{"store x 2/fence w w/store y 1|load r0 y/store x 1", "1 2 1", true},
	})
}

// P18.1: a value passes from thread to thread.
func TestMoreThreads(t *testing.T) {
	judge(t, []expected{
		{"store x 1|load r0 x/fence r w/store y 1|load r0 y/fence r r/load r1 x", "1 1 0 1 1", false},
		{"store x 1|load r0 x/store y r0|load r0 y/load r1 x dep r0", "1 1 0 1 1", false},
		{"store x 1|load r0 x/store y r0|load r0 y/load r1 x", "1 1 0 1 1", true},
		{"store x 1|load r0 x/load r1 y|load r0 y/load r1 x|store y 1", "1 0 1 0 1 1", true},
		{"store x 1|load r0 x/load r1 y dep r0|load r0 y/load r1 x dep r0|store y 1", "1 0 1 0 1 1", false},
		{"store x 1|load r0 x/fence rw rw/load r1 y|load r0 y/load r1 x|store y 1", "1 0 1 0 1 1", true},
	})
}

// P18.1: loads and stores of one location.
func TestCoherence(t *testing.T) {
	judge(t, []expected{
		{"store x 1|load r0 x/load r1 x", "1 0 1", false},
		{"store x 1/store x 2|load r0 x/load r1 x", "2 1 2", false},
		{"store x 1/store x 2", "1", false},
		{"load r0 x/store x 1", "1 1", false},
		{"store x 1/load r0 x", "0 1", false},
		{"store x 1/load r0 x|store x 2", "2 1", false},
		{"load r0 x/store x 1|store x 2", "2 2", false},
		{"store x 1/load r0 x/load r1 x|store x 2", "2 1 2", false},
		{"store x 1|store x 2|load r0 x/load r1 x|load r0 x/load r1 x", "1 2 2 1 1", false},
		{"store x 1|store x 2|load r0 x/load r1 x|load r0 x/load r1 x", "1 2 1 2 2", true},
	})
	check(t, "store x 1/load r0 x|store x 2", "1 1, 1 2, 2 2")
	check(t, "load r0 x/store x 1|store x 2", "0 1, 0 2, 2 1")
}

// P18.1: a load may read a store of its own thread before others may, unless it is a Swap, an Amo or a Sc.
func TestForwarding(t *testing.T) {
	const stale = "1 0 1 0 1 1"
	judge(t, []expected{
		{"store x 1/load r0 x/fence r r/load r1 y|store y 1/load r0 y/fence r r/load r1 x", stale, true},
		{"swap r2 x 1/load r0 x/fence r r/load r1 y|swap r2 y 1/load r0 y/fence r r/load r1 x", "1 0 0 1 0 0 1 1", false},
		{"store x 1/fence w w/store y 1|load r0 y/store z r0/load r1 z/load r2 x dep r1", "1 1 0 1 1 1", false},
		{"store x 1/fence w w/store y 1|load r0 y/beq r0 0 1/store z 1/load r1 z/load r2 x dep r1", "1 1 0 1 1 1", true},
	})
}

// P18.1: no value comes out of thin air.
func TestThinAir(t *testing.T) {
	check(t, "load r0 x/store y r0|load r0 y/store x r0", "0 0 0 0")
	check(t, "load r0 x/add r0 r0 0/store y r0|load r0 y/store x r0", "0 0 0 0")
	check(t, "load r0 x/bne r0 1 1/store y 1|load r0 y/bne r0 1 1/store x 1", "0 0 0 0")
	check(t, "amo r0 x 1/store y r0|load r0 y/store x r0", "0 0 0 0, 0 0 1 0")
	check(t, "load r0 x/store y r0", "0 0 0")
}

// P18.1: values in a circle are no run either if nothing is kept, and no register has them at the end.
func TestCircles(t *testing.T) {
	for threads, want := range map[string]string{
		"load r0 x/store y r0/li r0 0|load r0 y/store x r0/li r0 0":                         "0 0 3 3",
		"load r0 x/swap r1 y r0/li r0 0/li r1 0|load r0 y/amo r1 x r0/li r0 0/li r1 0":      "0 0 0 0 6 3, 0 0 0 0 6 6",
		"load r0 x/li r0 5|load r0 y/store x 7/li r0 5":                                     "5 5 7 3",
		"load r0 x/xor r1 r0 r0/store y r1/li r0 0|load r0 y/xor r1 r0 r0/store x 1 dep r1": "0 0 0 0 1 0, 0 0 3 0 1 0",
		"load r0 x/beq 0 0 0/store y 1|load r0 y/store x r0":                                "1 1 1 1, 3 1 1 1, 3 3 3 1",
		"load r0 x/beq r0 0 0/store y 1|load r0 y/store x r0":                               "3 1 1 1, 3 3 3 1",
	} {
		x := parsed(t, "x=3 y=3", threads)
		var got []string
		for _, s := range rvwmo.Explore(&x, nothing) {
			got = append(got, numbers(s))
		}
		if strings.Join(got, ", ") != want || !maps.Equal(visited(x, nothing), tried(x, nothing)) {
			t.Errorf("%q: %q, want %q", threads, got, want)
		}
	}
}

// P18.1: an instruction that reads and writes does both at once.
func TestAtomics(t *testing.T) {
	check(t, "amo r0 x 1|amo r0 x 1", "0 1 2, 1 0 2")
	check(t, "swap r0 x 1|swap r0 x 2", "0 1 2, 2 0 1")
	check(t, "swap r0 x 1/amo r1 x 2", "0 1 3")
	check(t, "amo r0 x 1|store x 5", "0 5, 5 6")
	if got := texts(t, parsed(t, "", "amo r0 x 1|amo r0 x 1|amo r0 x 1|amo r0 x 1")); len(got) != 24 {
		t.Errorf("%v", got)
	}
}

// P18.1: a Sc may always fail; it succeeds only if it is paired, and no other thread's store is in between.
func TestPairs(t *testing.T) {
	check(t, "lr r0 x/sc r1 x 1", "0 0 1, 0 1 0")
	check(t, "sc r1 x 1", "1 0")
	check(t, "lr r0 y/sc r1 x 1", "0 1 0 0")
	check(t, "lr r0 x/lr r0 y/sc r1 x 1", "0 1 0 0")
	check(t, "lr r0 x/sc r1 x 1/sc r2 x 2", "0 0 1 1, 0 1 1 0")
	check(t, "lr r0 x|sc r1 x 1", "0 1 0")
	check(t, "lr r0 x/beq 0 0 1/sc r1 x 1", "0 0 0")
	check(t, "lr r0 x/sc r1 x 1|store x 5", "0 0 5, 0 1 5, 5 0 1, 5 1 5")
	check(t, "lr r0 x/sc r1 x 1|swap r0 x 5", "0 0 1 5, 0 1 0 5, 5 0 0 1, 5 1 0 5")
	check(t, "lr r0 x/store x 3/sc r1 x 1", "0 0 1, 0 1 3")
	check(t, "store x 3/lr r0 x/sc r1 x 1", "3 0 1, 3 1 3")
	check(t, "lr r0 x/sc r1 x 1|lr r0 x/sc r1 x 2", "0 0 0 1 1, 0 0 1 0 2, 0 0 1 1 1, 0 1 0 0 2, 0 1 0 1 0, 2 0 0 0 1, 2 1 0 0 2")
	judge(t, []expected{
		{"lr r0 x/store x 3/sc r1 x 1|store x 5", "0 0 1", false},
		{"lr r0 x/store x 3/sc r1 x 1|store x 5", "0 0 5", true},
		{"store x 3/lr r0 x/sc r1 x 1|store x 5", "3 0 1", true},
		{"store x 3/lr r0 x/sc r1 x 1|store x 5/store y 1", "3 0 5 1", true},
		{"lr r0 x/sc r1 x 1|store x 0", "0 0 1", true},
	})
}

// P18.1: branches decide what executes, by what is read.
func TestBranches(t *testing.T) {
	check(t, "load r0 x/beq r0 0 1/store y 1|store x 1", "0 1 0, 1 1 1")
	check(t, "load r0 x/beq r0 0 1/store x 2|store x 1", "0 1, 1 2")
	check(t, "beq 0 0 1/store x 1|load r0 x", "0 0")
	check(t, "load r0 x/bne r0 1 1/load r1 y|store x 1/store y 1", "0 0 1 1, 1 0 1 1, 1 1 1 1")
	check(t, "load r0 x/beq r0 0 1/store y 1|load r0 y/beq r0 0 1/store z 1|store x 1", "0 0 1 0 0, 1 0 1 1 0, 1 1 1 1 1")
}

// P18.1: initial values, locations without stores, and threads without loads or stores.
func TestValues(t *testing.T) {
	for want, x := range map[string]litmus.Test{
		"7 7 9":                  parsed(t, "x=7 y=9", "load r0 x"),
		"18446744073709551615 1": parsed(t, "x=18446744073709551615", "amo r0 x 2"),
		"5 6":                    parsed(t, "a=5 b=6", "|"),
		"0":                      parsed(t, "", "li r3 0"),
		"":                       parsed(t, "", "|fence rw rw"),
		"4 12 4":                 parsed(t, "x=4", "load r1 x/add r2 r1 8|"),
		"1 2 3 4 5 6 7 8":        parsed(t, "a=1 b=2 c=3 d=4 e=5 f=6 g=7 h=8", "||fence rw rw|"),
	} {
		if got := texts(t, x); !slices.Equal(got, []string{want}) {
			t.Errorf("%+v: %q, want %q", x, got, want)
		}
	}
}

// nothing is kept.
func nothing(c *ppo.Case) rel.Rel {
	return rel.Rel{}
}

// buffered is what is kept on a machine with store buffers.
func buffered(c *ppo.Case) rel.Rel {
	stores := c.Those(func(x litmus.Instr) bool { return x.Op == litmus.Store })
	loads := c.Those(func(x litmus.Instr) bool { return x.Op == litmus.Load })
	return c.Po().Less(rel.Cross(stores, loads).Less(c.Fenced()))
}

// anyOrder keeps a random relation, the same one for all cases; many of its pairs are of different threads, and of Ops that do not execute or that there are not.
func anyOrder(r *rand.Rand) rvwmo.Order {
	var kept rel.Rel
	for range r.Intn(6) {
		kept = kept.With(r.Intn(6), r.Intn(6))
	}
	if r.Intn(4) > 0 {
		for k := range rel.Size {
			kept[k] &^= 1<<(k+1) - 1
		}
	}
	return func(c *ppo.Case) rel.Rel { return kept.With(15, 0).With(0, 15) }
}

// visited are all runs that Runs visits.
func visited(x litmus.Test, order rvwmo.Order) map[run]bool {
	found := map[run]bool{}
	rvwmo.Runs(&x, order, func(r rvwmo.Run) {
		found[run{fmt.Sprint(r.Case.From), fmt.Sprint(r.Case.Flow.State), r.Co, r.Ahead, r.State}] = true
	})
	return found
}

// P18.1: Runs visits exactly the permitted runs of random tests, whatever is kept, and with their Co, Ahead and states.
func TestRuns(t *testing.T) {
	r := rand.New(rand.NewSource(1))
	for i := range 3000 {
		x := mixed(r, i, 3, 5)
		for name, order := range map[string]rvwmo.Order{"ppo": (*ppo.Case).Order, "nothing": nothing, "Po": (*ppo.Case).Po, "any": anyOrder(r)} {
			if got, want := visited(x, order), tried(x, order); !maps.Equal(got, want) {
				t.Fatalf("%s: %+v: %v, want %v", name, x, got, want)
			}
		}
	}
}

// P18.1: what Runs passes for each run fits together.
func TestRunsFit(t *testing.T) {
	r := rand.New(rand.NewSource(2))
	for i := range 300 {
		x := mixed(r, i, 4, 8)
		rvwmo.Runs(&x, (*ppo.Case).Order, func(y rvwmo.Run) {
			c, f := y.Case, y.Case.Flow
			reads, works := make([]flow.Val, len(c.Ops)), make([]bool, len(c.Ops))
			for k, s := range c.From {
				x := c.T.Threads[c.Ops[k].Thread][c.Ops[k].At]
				works[k] = x.Op == litmus.Sc && f.State[k] == flow.Runs
				if c.Reads()>>k&1 == 1 {
					reads[k] = flow.Val{Known: true, V: c.T.Locs[x.Loc].V}
				}
				if s >= 0 {
					reads[k] = f.Write[s]
				}
			}
			if again := flow.Of(&x, reads, works); fmt.Sprint(*again) != fmt.Sprint(*f) || !f.Whole {
				t.Fatalf("%+v, %v: %+v, want %+v", x, c.From, *f, *again)
			}
			if !slices.Equal(c.Ops, flow.Ops(&x)) || fmt.Sprint(*c.T) != fmt.Sprint(x) {
				t.Fatalf("%+v: %+v, %+v", x, c.Ops, *c.T)
			}
			if _, ok := y.Ahead.Order(c.Runs()); !ok || c.Order().Or(y.Co).Less(y.Ahead) != (rel.Rel{}) {
				t.Fatalf("%+v: %+v", x, y)
			}
		})
	}
}

// P18.1: the states of random tests are those of the published axioms, whatever is kept.
func TestAxioms(t *testing.T) {
	r := rand.New(rand.NewSource(3))
	for i := range 1200 {
		x := mixed(r, i, 3, 5)
		got := rvwmo.States(&x)
		if want := axioms(x, (*ppo.Case).Order); !slices.Equal(got, want) {
			t.Fatalf("%+v: %v, want %v", x, got, want)
		}
	}
}

// P18.1: the known tests, by the axioms.
func TestKnownAxioms(t *testing.T) {
	for _, threads := range []string{
		"store x 1/store y 1|load r0 y/load r1 x",
		"store x 1/load r1 x/load r0 y|store y 1/load r0 y/load r1 x",
		"store x 1|load r0 x/load r1 y dep r0|load r0 y/load r1 x|store y 1",
		"swap r0 x 1/amo r1 y 1|amo r0 y 2/swap r1 x 2",
		"lr r0 x/sc r1 x 1|lr r0 x/sc r1 x 2",
		"lr r0 x/sc r1 x 1|lr r0 x/sc r1 x 2|store x 3",
		"lr r0 x/store x 3/sc r1 x 1|store x 5/load r0 x",
		"lr r0 x/bne r0 0 1/sc r1 x 1|lr r0 x/lr r1 y/sc r2 x 1/sc r3 y 1",
		"load r0 x/store y r0|load r0 y/store z r0|load r0 z/store x 1",
		"store x 2/fence w w/store y 1|load r0 y/beq r0 0 1/store x 1|load r0 x/load r1 x",
	} {
		x := parsed(t, "", threads)
		got := rvwmo.States(&x)
		if want := axioms(x, (*ppo.Case).Order); !slices.Equal(got, want) {
			t.Errorf("%q: %v, want %v", threads, got, want)
		}
	}
}

// P18.1: States is Explore with what ppo keeps, and Explore has the states of all runs.
func TestExplore(t *testing.T) {
	r := rand.New(rand.NewSource(4))
	for i := range 300 {
		x := mixed(r, i, 4, 8)
		ends := map[outcome.State]bool{}
		rvwmo.Runs(&x, (*ppo.Case).Order, func(y rvwmo.Run) { ends[y.State] = true })
		want := outcome.Of(ends)
		if got := rvwmo.Explore(&x, (*ppo.Case).Order); !slices.Equal(got, want) || !slices.Equal(rvwmo.States(&x), want) {
			t.Fatalf("%+v: %v, want %v", x, got, want)
		}
	}
}

// P18.1: with all of program order kept Explore is sequential consistency, and with that of store buffers it is their machine.
func TestOtherOrders(t *testing.T) {
	r := rand.New(rand.NewSource(5))
	for i := range 1200 {
		// Without Lr and Sc.
		x := mixed(r, 1+i%2, 4, 8)
		if got, want := rvwmo.Explore(&x, (*ppo.Case).Po), seqc.States(&x); !slices.Equal(got, want) {
			t.Fatalf("%+v: %v, want %v", x, got, want)
		}
		want, _ := tso.States(&x)
		if got := rvwmo.Explore(&x, buffered); !slices.Equal(got, want) {
			t.Fatalf("buffers: %+v: %v, want %v", x, got, want)
		}
	}
}

// P18.2: each state under sequential consistency is also one of RVWMO; and each one with store buffers, if no Store has Rel.
func TestWeaker(t *testing.T) {
	r := rand.New(rand.NewSource(6))
	more := 0
	for i := range 4000 {
		x := mixed(r, i, 1+i%4, 8)
		weak := rvwmo.States(&x)
		if strict := seqc.States(&x); len(strict) == 0 || !strict.Within(weak) {
			t.Fatalf("%+v: %v, %v", x, strict, weak)
		}
		buffers, ok := tso.States(&x)
		isReleased := slices.ContainsFunc(x.Threads, func(list []litmus.Instr) bool {
			return slices.ContainsFunc(list, func(y litmus.Instr) bool { return y.Op == litmus.Store && y.Rel })
		})
		if ok && !isReleased && !buffers.Within(weak) {
			t.Fatalf("%+v: %v, %v", x, buffers, weak)
		}
		if ok && len(buffers) < len(weak) {
			more++
		}
	}
	if more < 100 {
		t.Errorf("only %d tests have more states", more)
	}
}

// P1: the tests with the most runs end too, and have the states that can be counted.
func TestGreatest(t *testing.T) {
	for threads, want := range map[string]int{
		"store x 1/store x 2|store x 3/store x 4|store x 5/store x 6|store x 7/store x 8":        4,
		"store x 1/store x 2/store x 3/store x 4/store x 5/store x 6/store x 7/store x 8":        1,
		"sc r0 x 1/sc r1 x 2/sc r2 x 3/sc r3 x 4/sc r4 x 5/sc r5 x 6/sc r6 x 7/sc r7 x 8":        1,
		"store x 1/store x 2/store x 3/store x 4|load r0 x/load r1 x/load r2 x/load r3 x":        70,
		"load r0 x/store y 1|load r0 y/store x 1|load r0 x/store y 2|load r0 y/store x 2":        324,
		"load r0 x/load r1 x/load r2 x/load r3 x|load r0 x/load r1 x/load r2 x/load r3 x":        1,
		"store a 1/store b 1|store c 1/store d 1|store e 1/store f 1|load r0 a/load r1 b":        4,
		"lr r0 a/sc r1 a 1|lr r0 b/sc r1 b 1|lr r0 c/sc r1 c 1|lr r0 d/sc r1 d 1":                16,
		"amo r0 x 1/amo r1 x 1/amo r2 x 1/amo r3 x 1":                                            1,
		"amo r0 x 1/amo r1 x 1|amo r2 x 1/amo r3 x 1":                                            6,
		"store x 1|store x 2|store x 3|store x 4":                                                4,
		"li r0 1/li r1 1/li r2 1/li r3 1/li r4 1/li r5 1/li r6 1/li r7 1|load r0 x|store x 1/|/": 2,
	} {
		if got := texts(t, parsed(t, "", threads)); len(got) != want {
			t.Errorf("%q: %d states, want %d", threads, len(got), want)
		}
	}
	x := parsed(t, "", "store x 1/store x 2|store x 3/store x 4|store x 5/store x 6|store x 7/store x 8")
	n := 0
	rvwmo.Runs(&x, nothing, func(rvwmo.Run) { n++ })
	if n < 40320 || len(rvwmo.Explore(&x, nothing)) != 8 {
		t.Errorf("%d runs", n)
	}
}

// P18.1, K3: neither an Order nor a visit can change a test, or other runs.
func TestRunsShareNothing(t *testing.T) {
	x := parsed(t, "x=3", "lr r0 x/beq r0 4 1/sc r1 x 1/load r2 y dep r0|load r1 y/store x r1|store x 4")
	x.Asks = []litmus.Atom{{Thread: -1, V: 2}}
	before := fmt.Sprintf("%+v", x)
	tell := func(r rvwmo.Run) string {
		return fmt.Sprintf("%+v %+v %+v %v %v %v %v", *r.Case.T, r.Case.Ops, *r.Case.Flow, r.Case.From, r.Co, r.Ahead, r.State)
	}
	spoil := func(c *ppo.Case) {
		clear(c.T.Locs)
		for _, list := range c.T.Threads {
			clear(list)
		}
		clear(c.T.Threads)
		clear(c.T.Asks)
		clear(c.Ops)
		clear(c.From)
		f := c.Flow
		clear(f.State)
		clear(f.Write)
		clear(f.Pair)
		clear(f.Place)
		clear(f.Value)
		clear(f.Path)
		clear(f.Left)
		clear(f.Regs)
		*c.T, *f = litmus.Test{}, flow.Flow{}
		*c = ppo.Case{}
	}
	var want, got []string
	rvwmo.Runs(&x, (*ppo.Case).Order, func(r rvwmo.Run) { want = append(want, tell(r)) })
	rvwmo.Runs(&x, func(c *ppo.Case) rel.Rel {
		kept := c.Order()
		spoil(c)
		return kept
	}, func(r rvwmo.Run) {
		got = append(got, tell(r))
		spoil(r.Case)
	})
	slices.Sort(want)
	slices.Sort(got)
	if len(want) < 10 || !slices.Equal(got, want) || fmt.Sprintf("%+v", x) != before {
		t.Errorf("%d runs, want %d; %+v, want %s", len(got), len(want), x, before)
	}
}

// P18.1, K3 and K4: a set belongs to the caller, and the same test has the same one again.
func TestSetsShareNothing(t *testing.T) {
	x := parsed(t, "x=3", "lr r0 x/sc r1 x 1/load r2 y|amo r1 y 1/store x 2")
	first := rvwmo.States(&x)
	want := slices.Clone(first)
	clear(first)
	for range 10 {
		if got := rvwmo.States(&x); len(got) == 0 || !slices.Equal(got, want) {
			t.Fatalf("%v, want %v", got, want)
		}
	}
}

// P18.1: what a test asks for does not matter.
func TestAsks(t *testing.T) {
	x := parsed(t, "", "load r0 x|store x 1/ask 0:r0=1 0:r5=2 x=7")
	if got := texts(t, x); !slices.Equal(got, []string{"0 1", "1 1"}) {
		t.Errorf("%v", got)
	}
}

// P18.1: a visit may explore tests itself.
func TestNested(t *testing.T) {
	x, y := parsed(t, "", "store x 1|load r0 x"), parsed(t, "", "amo r0 x 1|amo r0 x 1")
	n := 0
	rvwmo.Runs(&x, func(c *ppo.Case) rel.Rel {
		rvwmo.States(&y)
		return c.Order()
	}, func(rvwmo.Run) { n += len(rvwmo.States(&y)) })
	if n != 4 {
		t.Errorf("%d", n)
	}
}

// K7: invalid tests, and functions that are none, do no harm.
func TestInvalid(t *testing.T) {
	for op := -2; op < 21; op++ {
		for _, n := range []int{math.MinInt, -1, 3, 8, 9, 64, math.MaxInt} {
			bad := litmus.Instr{Op: op, Rd: n, Loc: n, A: litmus.Arg{Reg: true, N: uint64(n)}, B: litmus.Arg{Reg: true, N: 8}, Dep: n, Pred: n, Succ: n, Skip: n}
			rvwmo.States(&litmus.Test{Threads: [][]litmus.Instr{{bad, bad}, slices.Repeat([]litmus.Instr{bad}, 70)}})
			rvwmo.States(&litmus.Test{Locs: []litmus.Init{{Name: "x"}}, Threads: [][]litmus.Instr{{bad}}})
		}
	}
	for _, x := range []litmus.Test{{}, {Threads: make([][]litmus.Instr, 5)}, {Threads: make([][]litmus.Instr, 1), Locs: make([]litmus.Init, 9)}} {
		if len(rvwmo.States(&x)) != 0 {
			t.Errorf("%+v: states", x)
		}
	}
	x := parsed(t, "", "store x 1|load r0 x")
	rvwmo.Runs(&x, nil, func(rvwmo.Run) { t.Error("a run without an Order") })
	rvwmo.Runs(&x, nothing, nil)
	if len(rvwmo.Explore(&x, nil)) != 0 {
		t.Error("states without an Order")
	}
}
