package axtso_test

import (
	"fmt"
	"math"
	"math/rand"
	"slices"
	"strings"
	"testing"

	"ordeal/api"
	"ordeal/axtso"
	"ordeal/flow"
	"ordeal/litmus"
	"ordeal/outcome"
	"ordeal/ppo"
	"ordeal/read"
	"ordeal/rel"
	"ordeal/rvwmo"
	"ordeal/seqc"
	"ordeal/tso"
)

// parsed is the test of these threads, which bars separate; strokes separate the instructions of each.
func parsed(t *testing.T, threads string) litmus.Test {
	t.Helper()
	s := "thread\n" + strings.NewReplacer("/", "\n", "|", "\nthread\n").Replace(threads)
	x, n, e := read.Parse(s)
	if e != api.OK {
		t.Fatalf("%q: %d at %d", s, e, n)
	}
	return x
}

// texts are the states of a set, each as its numbers, separated by commas.
func texts(set outcome.Set) string {
	var list []string
	for _, s := range set {
		list = append(list, strings.Trim(fmt.Sprint(s.V[:s.N]), "[]"))
	}
	return strings.Join(list, ", ")
}

// listed are the pairs of a relation.
func listed(r rel.Rel) string {
	var list []string
	for a := range rel.Size {
		for b := range rel.Size {
			if r.Has(a, b) {
				list = append(list, fmt.Sprint(a, b))
			}
		}
	}
	return strings.Join(list, ", ")
}

// caseOf is the case of a test in which everything reads 0, and each Sc succeeds or none does.
func caseOf(x *litmus.Test, works bool) *ppo.Case {
	ops := flow.Ops(x)
	n := len(ops)
	c := &ppo.Case{T: x, Ops: ops, From: slices.Repeat([]int{-1}, n)}
	c.Flow = flow.Of(x, slices.Repeat([]flow.Val{{Known: true}}, n), slices.Repeat([]bool{works}, n))
	return c
}

// P19.3: Order keeps all but a store before a load, and that too over a fence of stores before loads.
func TestOrder(t *testing.T) {
	for threads, want := range map[string]string{
		"store x 1/load r0 y":                        "",
		"store x 1/load r0 x":                        "",
		"store x 1/store y 1":                        "0 1",
		"load r0 x/load r1 y":                        "0 1",
		"load r0 x/store y 1":                        "0 1",
		"store x 1/swap r0 y 1":                      "0 1",
		"store x 1/amo r0 y 1":                       "0 1",
		"swap r0 x 1/load r1 y":                      "0 1",
		"amo r0 x 1/load r1 y":                       "0 1",
		"amo r0 x 1/swap r1 y 1":                     "0 1",
		"store x 1/lr r0 y":                          "",
		"lr r0 x/store y 1":                          "0 1",
		"lr r0 x/sc r1 x 1/load r2 y":                "0 1, 0 2",
		"lr r0 x/sc r1 x 1/lr r2 y":                  "0 1, 0 2",
		"lr r0 x/sc r1 x 1/store y 1":                "0 1, 0 2, 1 2",
		"lr r0 x/sc r1 x 1/amo r2 y 1":               "0 1, 0 2, 1 2",
		"store x 1/lr r0 y/sc r1 y 1":                "0 2, 1 2",
		"store x 1 rel/load r0 y acq":                "",
		"store x 1/load r0 y dep r1":                 "",
		"store x 1/load r0 y|store y 1/store x 1":    "2 3",
		"store x 1|load r0 x":                        "",
		"store x 1/swap r0 z 1/load r1 y":            "0 1, 1 2",
		"store x 1/store z 1/load r1 y/load r2 z":    "0 1, 2 3",
		"store x 1/fence w r/load r0 y":              "0 1",
		"store x 1/fence rw r/load r0 y":             "0 1",
		"store x 1/fence w rw/load r0 y":             "0 1",
		"store x 1/fence rw rw/load r0 y":            "0 1",
		"store x 1/fence r r/load r0 y":              "",
		"store x 1/fence r w/load r0 y":              "",
		"store x 1/fence w w/load r0 y":              "",
		"store x 1/fence r rw/load r0 y":             "",
		"store x 1/fence rw w/load r0 y":             "",
		"store x 1/fence w w/fence r r/load r0 y":    "",
		"fence w r/store x 1/load r0 y":              "",
		"store x 1/load r0 y/fence w r":              "",
		"fence w r|store x 1/load r0 y":              "",
		"store x 1/fence w r/load r0 y/load r1 z":    "0 1, 0 2, 1 2",
		"store x 1/store y 1/fence w r/load r0 z":    "0 1, 0 2, 1 2",
		"store x 1/fence w r/store y 1/load r0 z":    "0 1, 0 2",
		"store x 1/beq 0 0 1/fence w r/load r0 y":    "",
		"store x 1/beq 0 1 1/fence w r/load r0 y":    "0 1",
		"load r0 x/beq r0 0 1/store y 1/store z 1":   "0 2",
		"load r0 x/bne r0 0 1/store y 1/store z 1":   "0 1, 0 2, 1 2",
		"load r0 x/beq r0 0 1/fence w r/load r1 y":   "0 1",
		"li r0 1/store x r0/add r1 r0 1/load r0 y":   "",
		"swap r0 x 1/fence w r/amo r1 y 1/load r2 z": "0 1, 0 2, 1 2",
		"":          "",
		"fence w r": "",
		"load r0 x/load r0 y/load r0 x/load r0 y/load r0 x/load r0 y/load r0 x/store x 1": "0 1, 0 2, 0 3, 0 4, 0 5, 0 6, 0 7, 1 2, 1 3, 1 4, 1 5, 1 6, 1 7, 2 3, 2 4, 2 5, 2 6, 2 7, 3 4, 3 5, 3 6, 3 7, 4 5, 4 6, 4 7, 5 6, 5 7, 6 7",
	} {
		x := parsed(t, threads)
		if got := listed(axtso.Order(caseOf(&x, true))); got != want {
			t.Errorf("%q: %s, want %s", threads, got, want)
		}
	}
}

// P19.3: an Op that does not execute, such as a Sc that fails, has no part in Order and All.
func TestFailed(t *testing.T) {
	x := parsed(t, "store y 1/lr r0 x/sc r1 x 1/store z 1/load r2 y")
	for works, want := range map[bool][2]string{
		true:  {"0 2, 0 3, 1 2, 1 3, 1 4, 2 3", "0 1, 0 2, 0 3, 0 4, 1 2, 1 3, 1 4, 2 3, 2 4, 3 4"},
		false: {"0 3, 1 3, 1 4", "0 1, 0 3, 0 4, 1 3, 1 4, 3 4"},
	} {
		c := caseOf(&x, works)
		if got := [2]string{listed(axtso.Order(c)), listed(axtso.All(c))}; got != want {
			t.Errorf("%v: %q, want %q", works, got, want)
		}
	}
}

// P19.3: All is the whole program order of the Ops that execute.
func TestAll(t *testing.T) {
	for threads, want := range map[string]string{
		"store x 1/load r0 y|store y 1/load r0 x/amo r1 x 1": "0 1, 2 3, 2 4, 3 4",
		"load r0 x/beq r0 0 1/store y 1/load r1 z":           "0 2",
		"load r0 x/bne r0 0 1/store y 1/load r1 z":           "0 1, 0 2, 1 2",
		"store x 1|load r0 x":                                "",
		"li r0 1/fence rw rw":                                "",
	} {
		x := parsed(t, threads)
		if got := listed(axtso.All(caseOf(&x, true))); got != want {
			t.Errorf("%q: %s, want %s", threads, got, want)
		}
	}
}

// P19.3: Order and All of random cases, of which not everything need be known, and again; the case remains as it is.
func TestRandomCases(t *testing.T) {
	r := rand.New(rand.NewSource(1))
	fewer := 0
	for range 20000 {
		c := randomCase(r, random(r, paired, 8))
		before := fmt.Sprint(*c.T, c.Ops, *c.Flow, c.From)
		got := axtso.Order(c)
		if want := judged(c); got != want || axtso.Order(c) != want {
			t.Fatalf("%s: %s, want %s", before, listed(got), listed(want))
		}
		if all := axtso.All(c); all != c.Po() || axtso.All(c) != all {
			t.Fatalf("%s: all: %s", before, listed(all))
		}
		if fmt.Sprint(*c.T, c.Ops, *c.Flow, c.From) != before {
			t.Fatalf("%s: it is changed", before)
		}
		if got != axtso.All(c) {
			fewer++
		}
	}
	if fewer < 1000 {
		t.Errorf("only %d cases keep less than all", fewer)
	}
}

// mixed is a random test without Lr and Sc.
func mixed(r *rand.Rand, i int) litmus.Test {
	if i%2 == 0 {
		return loose(r)
	}
	return random(r, plain, 4)
}

// P19.1: States has exactly the states of the machine, for random tests without Lr and Sc.
func TestStates(t *testing.T) {
	r := rand.New(rand.NewSource(2))
	more := 0
	for i := range 3000 {
		x := mixed(r, i)
		want, ok := tso.States(&x)
		if got := axtso.States(&x); !ok || !slices.Equal(got, want) {
			t.Fatalf("%+v: %s, want %s", x, texts(got), texts(want))
		}
		if len(want) > len(seqc.States(&x)) {
			more++
		}
	}
	if more < 100 {
		t.Errorf("only in %d tests buffers are to be seen", more)
	}
}

// P19.2: with All there are exactly the states under sequential consistency, for random tests without Lr and Sc.
func TestStrict(t *testing.T) {
	r := rand.New(rand.NewSource(3))
	for i := range 3000 {
		x := mixed(r, i)
		want := seqc.States(&x)
		if got := rvwmo.Explore(&x, axtso.All); !slices.Equal(got, want) {
			t.Fatalf("%+v: %s, want %s", x, texts(got), texts(want))
		}
	}
}

// P19.1 and P19.2: known tests, with the states of both.
func TestKnown(t *testing.T) {
	for threads, want := range map[string][2]string{
		"store x 1/load r0 y|store y 1/load r0 x":                         {"0 0 1 1, 0 1 1 1, 1 0 1 1, 1 1 1 1", "0 1 1 1, 1 0 1 1, 1 1 1 1"},
		"store x 1/fence w r/load r0 y|store y 1/fence w r/load r0 x":     {"0 1 1 1, 1 0 1 1, 1 1 1 1", "0 1 1 1, 1 0 1 1, 1 1 1 1"},
		"store x 1/fence r w/load r0 y|store y 1/fence w r/load r0 x":     {"0 0 1 1, 0 1 1 1, 1 0 1 1, 1 1 1 1", "0 1 1 1, 1 0 1 1, 1 1 1 1"},
		"store x 1 rel/load r0 y acq|store y 1 rel/load r0 x acq":         {"0 0 1 1, 0 1 1 1, 1 0 1 1, 1 1 1 1", "0 1 1 1, 1 0 1 1, 1 1 1 1"},
		"store x 1/store y 1|load r0 y/load r1 x":                         {"0 0 1 1, 0 1 1 1, 1 1 1 1", "0 0 1 1, 0 1 1 1, 1 1 1 1"},
		"load r0 x/store y 1|load r0 y/store x 1":                         {"0 0 1 1, 0 1 1 1, 1 0 1 1", "0 0 1 1, 0 1 1 1, 1 0 1 1"},
		"store x 1/swap r1 z 1/load r0 y|store y 1/swap r1 w 1/load r0 x": {"0 0 1 0 1 1 1 1, 1 0 0 0 1 1 1 1, 1 0 1 0 1 1 1 1", "0 0 1 0 1 1 1 1, 1 0 0 0 1 1 1 1, 1 0 1 0 1 1 1 1"},
		"store x 1/load r0 x|store x 2":                                   {"1 1, 1 2, 2 2", "1 1, 1 2, 2 2"},
		"load r0 x/store x 1":                                             {"0 1", "0 1"},
		"amo r0 x 1|amo r0 x 1":                                           {"0 1 2, 1 0 2", "0 1 2, 1 0 2"},
	} {
		x := parsed(t, threads)
		if got := [2]string{texts(axtso.States(&x)), texts(rvwmo.Explore(&x, axtso.All))}; got != want {
			t.Errorf("%q: %q, want %q", threads, got, want)
		}
	}
	x := parsed(t, "store x 1/load r0 x/load r1 y|store y 1/load r0 y/load r1 x")
	if got := texts(axtso.States(&x)); !strings.Contains(got, "1 0 1 0 1 1") {
		t.Errorf("a thread does not read its own stores early: %s", got)
	}
	x = parsed(t, "store x 1|store y 1|load r0 x/load r1 y|load r0 y/load r1 x")
	if got := texts(axtso.States(&x)); strings.Contains(got, "1 0 1 0 1 1") {
		t.Errorf("two threads see two stores in different orders: %s", got)
	}
}

// P19.3: a test with Lr and Sc has states too: a Sc is a store, and a Lr is a load.
func TestPairs(t *testing.T) {
	const stale = "0 0 0 0 1 1"
	for threads, want := range map[string]bool{
		"lr r0 x/sc r1 x 1/load r2 y|store y 1/fence w r/load r0 x":           true,
		"lr r0 x/sc r1 x 1/lr r2 y|store y 1/lr r0 x":                         true,
		"lr r0 x/sc r1 x 1/fence w r/load r2 y|store y 1/fence w r/load r0 x": false,
		"lr r0 x/sc r1 x 1/amo r2 y 0|store y 1/fence w r/load r0 x":          false,
		"lr r0 x/swap r1 x 1/load r2 y|store y 1/fence w r/load r0 x":         false,
		"lr r0 x/sc r1 x 1/fence w r/lr r2 y|store y 1/load r0 x":             true,
	} {
		x := parsed(t, threads)
		list := strings.Split(texts(axtso.States(&x)), ", ")
		if slices.Contains(list, stale) != want || slices.Contains(list, "0 0 2 0 1 1") {
			t.Errorf("%q: %q", threads, list)
		}
	}
	x := parsed(t, "lr r0 x/sc r1 x 1|store x 5")
	if got := texts(axtso.States(&x)); got != "0 0 5, 0 1 5, 5 0 1, 5 1 5" {
		t.Errorf("%s", got)
	}
}

// P19.3: States is Explore with what store buffers keep, with Lr and Sc too; and that permits what is permitted where all is kept.
func TestRandomPairs(t *testing.T) {
	r := rand.New(rand.NewSource(4))
	for range 2000 {
		x := random(r, paired, 4)
		got := axtso.States(&x)
		if want := rvwmo.Explore(&x, judged); !slices.Equal(got, want) {
			t.Fatalf("%+v: %s, want %s", x, texts(got), texts(want))
		}
		if strict := rvwmo.Explore(&x, axtso.All); len(strict) == 0 || !strict.Within(got) {
			t.Fatalf("%+v: %s, %s", x, texts(strict), texts(got))
		}
	}
}

// P19.3: Of has the states of the three models; the machine does not try tests with Lr or Sc.
func TestOf(t *testing.T) {
	r := rand.New(rand.NewSource(5))
	for i := range 600 {
		x := mixed(r, i)
		if i%3 == 0 {
			x = random(r, paired, 4)
		}
		before := fmt.Sprint(x)
		m := axtso.Of(&x)
		buffers, ok := tso.States(&x)
		if !slices.Equal(m.Sc, seqc.States(&x)) || !slices.Equal(m.Tso, buffers) || !slices.Equal(m.Rv, rvwmo.States(&x)) || m.HasTso != ok {
			t.Fatalf("%+v: %+v", x, m)
		}
		if ok == x.HasPairs() || !ok && len(m.Tso) != 0 || fmt.Sprint(x) != before {
			t.Fatalf("%+v: %+v", x, m)
		}
	}
	for threads, want := range map[string]bool{"lr r0 x": false, "sc r0 x 1": false, "swap r0 x 1": true, "fence w r": true} {
		x := parsed(t, threads)
		if m := axtso.Of(&x); m.HasTso != want || len(m.Tso) > 0 != want || len(m.Sc) == 0 || len(m.Rv) == 0 {
			t.Errorf("%q: %+v", threads, m)
		}
	}
}

// P19.3: the examples of the chapter, and others: how many states of each kind there are.
func TestKindsOfTests(t *testing.T) {
	for threads, want := range map[string][4]int{
		"store x 1/load r0 y|store y 1/load r0 x":                     {3, 1, 0, 0},
		"store x 1/store y 1|load r0 y/load r1 x":                     {3, 0, 1, 0},
		"store x 1 rel/load r0 y acq|store y 1 rel/load r0 x acq":     {3, 0, 0, 1},
		"store x 1/fence w r/load r0 y|store y 1/fence w r/load r0 x": {3, 0, 0, 0},
		"load r0 x/store y 1|load r0 y/store x 1":                     {3, 0, 1, 0},
		"lr r0 x/sc r1 x 1|store x 5":                                 {4, 0, 0, 0},
		"lr r0 z|store x 1/store y 1|load r0 y/load r1 x":             {3, 0, 1, 0},
		"li r0 1": {1, 0, 0, 0},
	} {
		x := parsed(t, threads)
		a, b, c, d := axtso.Of(&x).Kinds()
		if got := [4]int{len(a), len(b), len(c), len(d)}; got != want {
			t.Errorf("%q: %v, want %v", threads, got, want)
		}
	}
	x := parsed(t, "store x 1/store y 1|load r0 y/load r1 x")
	if _, _, weak, _ := axtso.Of(&x).Kinds(); texts(weak) != "1 0 1 1" {
		t.Errorf("%s", texts(weak))
	}
}

// numbered is the set of states of one number each.
func numbered(list ...uint64) outcome.Set {
	var set outcome.Set
	for _, v := range list {
		s := outcome.State{N: 1}
		s.V[0] = v
		set = append(set, s)
	}
	return set
}

// P19.3: Only.
func TestOnly(t *testing.T) {
	for _, c := range []struct{ a, b, want outcome.Set }{
		{nil, nil, nil},
		{nil, numbered(1), nil},
		{numbered(1, 2), nil, numbered(1, 2)},
		{numbered(1, 2), outcome.Set{}, numbered(1, 2)},
		{numbered(1, 2, 3), numbered(2), numbered(1, 3)},
		{numbered(1, 2, 3), numbered(1, 3), numbered(2)},
		{numbered(1, 2, 3), numbered(0, 4), numbered(1, 2, 3)},
		{numbered(2), numbered(1, 2, 3), nil},
		{numbered(0, math.MaxUint64), numbered(1, math.MaxUint64), numbered(0)},
		{numbered(1), outcome.Set{{N: 2, V: [outcome.MaxSlots]uint64{1}}}, numbered(1)},
	} {
		if got := axtso.Only(c.a, c.b); !slices.Equal(got, c.want) {
			t.Errorf("%v, %v: %v, want %v", c.a, c.b, got, c.want)
		}
	}
}

// some is a random set of the numbers up to 7.
func some(r *rand.Rand) outcome.Set {
	var list []uint64
	for v := range uint64(8) {
		if r.Intn(2) == 0 {
			list = append(list, v)
		}
	}
	return numbered(list...)
}

// those are the states of the numbers up to 7 for which is returns true.
func those(is func(x outcome.State) bool) outcome.Set {
	var set outcome.Set
	for _, x := range numbered(0, 1, 2, 3, 4, 5, 6, 7) {
		if is(x) {
			set = append(set, x)
		}
	}
	return set
}

// P19.3: Kinds and Only of any sets, also of such as no test has; and again.
func TestKinds(t *testing.T) {
	r := rand.New(rand.NewSource(6))
	for i := range 3000 {
		m := axtso.Models{Sc: some(r), Tso: some(r), Rv: some(r), HasTso: i%3 > 0}
		in := func(set outcome.Set, x outcome.State) bool { return slices.Contains(set, x) }
		want := []outcome.Set{
			those(func(x outcome.State) bool { return in(m.Sc, x) && in(m.Tso, x) }),
			those(func(x outcome.State) bool { return in(m.Tso, x) && in(m.Rv, x) && !in(m.Sc, x) }),
			those(func(x outcome.State) bool { return in(m.Rv, x) && !in(m.Tso, x) }),
			those(func(x outcome.State) bool { return in(m.Tso, x) && !in(m.Sc, x) && !in(m.Rv, x) }),
		}
		if !m.HasTso {
			want = []outcome.Set{
				those(func(x outcome.State) bool { return in(m.Sc, x) && in(m.Rv, x) }),
				nil,
				those(func(x outcome.State) bool { return in(m.Rv, x) && !in(m.Sc, x) }),
				nil,
			}
		}
		for range 2 {
			all, loose, weak, odd := m.Kinds()
			if got := []outcome.Set{all, loose, weak, odd}; !slices.EqualFunc(got, want, slices.Equal[outcome.Set]) {
				t.Fatalf("%+v: %v, want %v", m, got, want)
			}
		}
		only := those(func(x outcome.State) bool { return in(m.Sc, x) && !in(m.Rv, x) })
		if got := axtso.Only(m.Sc, m.Rv); !slices.Equal(got, only) {
			t.Fatalf("%v, %v: %v", m.Sc, m.Rv, got)
		}
	}
}

// P19.3: where all three models are tried, each state of one of them is of exactly one kind.
func TestKindsTogether(t *testing.T) {
	r := rand.New(rand.NewSource(7))
	seen := [4]int{}
	for i := range 600 {
		x := mixed(r, i)
		m := axtso.Of(&x)
		all, loose, weak, odd := m.Kinds()
		together := all.With(loose).With(weak).With(odd)
		if !slices.Equal(together, m.Sc.With(m.Tso).With(m.Rv)) || len(together) != len(all)+len(loose)+len(weak)+len(odd) {
			t.Fatalf("%+v: %v, %v, %v, %v", x, all, loose, weak, odd)
		}
		for k, set := range []outcome.Set{all, loose, weak, odd} {
			seen[k] += len(set)
		}
	}
	if slices.Min(seen[:]) == 0 {
		t.Errorf("states of each kind: %v", seen)
	}
}

// K3: the results share no memory with the sets, or with each other, and the sets remain as they are.
func TestSharesNothing(t *testing.T) {
	for _, has := range []bool{true, false} {
		store := numbered(1, 2, 3, 4, 5, 6, 99, 98)
		other := numbered(2, 3, 5, 99, 98)
		third := numbered(3, 6, 7, 99, 98)
		m := axtso.Models{Sc: store[:6], Tso: other[:3], Rv: third[:3], HasTso: has}
		spoil := func(set outcome.Set) {
			clear(set)
			_ = append(set, outcome.State{}, outcome.State{})
		}
		a, b, c, d := m.Kinds()
		want := fmt.Sprint(b, c, d)
		spoil(a)
		if got := fmt.Sprint(b, c, d); got != want {
			t.Errorf("%s, want %s", got, want)
		}
		spoil(b)
		spoil(c)
		spoil(d)
		spoil(axtso.Only(m.Sc, nil))
		spoil(axtso.Only(m.Sc, m.Rv))
		if fmt.Sprint(store, other, third) != fmt.Sprint(numbered(1, 2, 3, 4, 5, 6, 99, 98), numbered(2, 3, 5, 99, 98), numbered(3, 6, 7, 99, 98)) {
			t.Errorf("%v, %v, %v", store, other, third)
		}
	}
	x := parsed(t, "store x 1/load r0 y|store y 1/load r0 x")
	m := axtso.Of(&x)
	want := fmt.Sprint(m)
	clear(m.Sc)
	clear(m.Tso)
	clear(m.Rv)
	if got := fmt.Sprint(axtso.Of(&x)); got != want {
		t.Errorf("%s, want %s", got, want)
	}
}

// K7: the calls end for the greatest tests, and do no harm if a test, a case or a set is none.
func TestInvalid(t *testing.T) {
	x := parsed(t, "store x 1/store x 2|store x 3/store x 4|store x 5/store x 6|store x 7/store x 8")
	if got := axtso.Of(&x); len(got.Sc) != 4 || len(got.Tso) != 4 || len(got.Rv) != 4 || len(axtso.States(&x)) != 4 {
		t.Errorf("%+v", got)
	}
	for _, n := range []int{math.MinInt, -1, 9, 99, math.MaxInt} {
		y := litmus.Test{Threads: [][]litmus.Instr{{{Op: litmus.Load, Rd: n, Loc: n, Dep: n}, {Op: n}, {Op: litmus.Beq, Skip: n}}}}
		if m := axtso.Of(&y); len(m.Sc)+len(m.Tso)+len(m.Rv) != 0 || m.HasTso || len(axtso.States(&y)) != 0 {
			t.Errorf("%d: %+v", n, m)
		}
		c := ppo.Case{T: &y, Ops: slices.Repeat([]flow.Op{{Thread: n, At: n}, {At: 1}}, 20), Flow: &flow.Flow{State: slices.Repeat([]int{flow.Runs}, 30)}}
		axtso.Order(&c)
		axtso.All(&c)
	}
	none := ppo.Case{T: &litmus.Test{}, Flow: &flow.Flow{}}
	if axtso.Order(&none) != (rel.Rel{}) || axtso.All(&none) != (rel.Rel{}) {
		t.Error("a case of nothing")
	}
	if a, b, c, d := (axtso.Models{}).Kinds(); len(a)+len(b)+len(c)+len(d) != 0 {
		t.Error("models of nothing")
	}
	unsorted := numbered(3, 1, 3, 2)
	axtso.Only(unsorted, unsorted)
	axtso.Models{Sc: unsorted, Tso: unsorted, Rv: numbered(9, 1), HasTso: true}.Kinds()
}
