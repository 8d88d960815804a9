package shrink_test

import (
	"math"
	"math/rand"
	"slices"
	"strings"
	"testing"

	"ordeal/api"
	"ordeal/axtso"
	"ordeal/canon"
	"ordeal/cond"
	"ordeal/litmus"
	"ordeal/read"
	"ordeal/rvwmo"
	"ordeal/shrink"
)

// passing is the message-passing test.
const passing = "init x=0 y=0\nthread\nstore x 1\nstore y 1\nthread\nload r0 y\nload r1 x\n"

// parsed is the test of a text.
func parsed(t *testing.T, s string) litmus.Test {
	t.Helper()
	x, n, e := read.Parse(s)
	if e != api.OK {
		t.Fatalf("%q: %d at %d", s, e, n)
	}
	return x
}

// wantLesser: whether the tests of Lesser are those of these texts, in this order.
func wantLesser(t *testing.T, s string, want ...string) {
	t.Helper()
	var got []string
	for _, u := range shrink.Lesser(parsed(t, s)) {
		got = append(got, canon.Print(&u))
	}
	for i, text := range want {
		x := parsed(t, text)
		if !strings.HasPrefix(text, "init") {
			// Without a line of its own, init has the locations that the instructions name.
			text = canon.Print(&x)
		}
		if i < len(got) && got[i] != text {
			t.Errorf("%q, %d: %q, want %q", s, i, got[i], text)
		}
	}
	if len(got) != len(want) {
		t.Errorf("%q: %d tests, want %d: %q", s, len(got), len(want), got)
	}
}

// P28.1: a test without a thread and its atoms; the only thread stays.
func TestThreads(t *testing.T) {
	wantLesser(t, "thread\n")
	wantLesser(t, "thread\nthread\n", "thread\n", "thread\n")
	wantLesser(t, "thread\nli r0 0\nthread\nli r0 1\nthread\nli r0 2\nask 0:r0=0 0:r7=1 1:r0=2 2:r0=3 2:r1=4\n",
		"thread\nli r0 1\nthread\nli r0 2\nask 0:r0=2 1:r0=3 1:r1=4\n",
		"thread\nli r0 0\nthread\nli r0 2\nask 0:r0=0 0:r7=1 1:r0=3 1:r1=4\n",
		"thread\nli r0 0\nthread\nli r0 1\nask 0:r0=0 0:r7=1 1:r0=2\n",
		"thread\nthread\nli r0 1\nthread\nli r0 2\nask 0:r0=0 0:r7=1 1:r0=2 2:r0=3 2:r1=4\n",
		"thread\nli r0 0\nthread\nthread\nli r0 2\nask 0:r0=0 0:r7=1 1:r0=2 2:r0=3 2:r1=4\n",
		"thread\nli r0 0\nthread\nli r0 1\nthread\nask 0:r0=0 0:r7=1 1:r0=2 2:r0=3 2:r1=4\n",
		"thread\nli r0 0\nthread\nli r0 1\nthread\nli r0 2\nask 0:r7=1 1:r0=2 2:r0=3 2:r1=4\n",
		"thread\nli r0 0\nthread\nli r0 1\nthread\nli r0 2\nask 0:r0=0 1:r0=2 2:r0=3 2:r1=4\n",
		"thread\nli r0 0\nthread\nli r0 1\nthread\nli r0 2\nask 0:r0=0 0:r7=1 2:r0=3 2:r1=4\n",
		"thread\nli r0 0\nthread\nli r0 1\nthread\nli r0 2\nask 0:r0=0 0:r7=1 1:r0=2 2:r1=4\n",
		"thread\nli r0 0\nthread\nli r0 1\nthread\nli r0 2\nask 0:r0=0 0:r7=1 1:r0=2 2:r0=3\n",
	)
}

// P28.1: what a thread that goes leaves: the atoms of locations, and the locations.
func TestThreadLeaves(t *testing.T) {
	wantLesser(t, "init x=0 y=0\nthread\nstore x 1\nthread\nstore y 1\nask x=1 y=1\n",
		"init x=0 y=0\nthread\nstore y 1\nask x=1 y=1\n",
		"init x=0 y=0\nthread\nstore x 1\nask x=1 y=1\n",
		"init x=0 y=0\nthread\nthread\nstore y 1\nask x=1 y=1\n",
		"init x=0 y=0\nthread\nstore x 1\nthread\nask x=1 y=1\n",
		"init x=0 y=0\nthread\nstore x 1\nthread\nstore y 1\nask y=1\n",
		"init x=0 y=0\nthread\nstore x 1\nthread\nstore y 1\nask x=1\n",
	)
}

// P28.1: a branch that skips an instruction that goes skips one less; one that goes on at it does not, nor one behind it or of another thread.
func TestSkips(t *testing.T) {
	wantLesser(t, "thread\nbne r0 1 2\nbeq r0 0 2\nli r0 1\nli r1 1\nli r2 1\nbeq r0 0 0\n",
		"thread\nbeq r0 0 2\nli r0 1\nli r1 1\nli r2 1\nbeq r0 0 0\n",
		"thread\nbne r0 1 1\nli r0 1\nli r1 1\nli r2 1\nbeq r0 0 0\n",
		"thread\nbne r0 1 1\nbeq r0 0 1\nli r1 1\nli r2 1\nbeq r0 0 0\n",
		"thread\nbne r0 1 2\nbeq r0 0 1\nli r0 1\nli r2 1\nbeq r0 0 0\n",
		"thread\nbne r0 1 2\nbeq r0 0 2\nli r0 1\nli r1 1\nbeq r0 0 0\n",
		"thread\nbne r0 1 2\nbeq r0 0 2\nli r0 1\nli r1 1\nli r2 1\n",
	)
	wantLesser(t, "thread\nbeq r0 0 1\nli r0 1\nthread\nbeq r0 0 1\nli r0 1\n",
		"thread\nbeq r0 0 1\nli r0 1\n",
		"thread\nbeq r0 0 1\nli r0 1\n",
		"thread\nli r0 1\nthread\nbeq r0 0 1\nli r0 1\n",
		"thread\nbeq r0 0 0\nthread\nbeq r0 0 1\nli r0 1\n",
		"thread\nbeq r0 0 1\nli r0 1\nthread\nli r0 1\n",
		"thread\nbeq r0 0 1\nli r0 1\nthread\nbeq r0 0 0\n",
	)
}

// P28.1: a location goes if no instruction of any thread and no atom names it; an instruction without a location names none.
func TestLocs(t *testing.T) {
	wantLesser(t, "init a=0 b=0 c=0 d=0 e=0\nthread\nli r0 1\nload r1 b\nstore e 1\nask d=1\n",
		"init a=0 b=0 c=0 d=0 e=0\nthread\nload r1 b\nstore e 1\nask d=1\n",
		"init a=0 b=0 c=0 d=0 e=0\nthread\nli r0 1\nstore e 1\nask d=1\n",
		"init a=0 b=0 c=0 d=0 e=0\nthread\nli r0 1\nload r1 b\nask d=1\n",
		"init a=0 b=0 c=0 d=0 e=0\nthread\nli r0 1\nload r1 b\nstore e 1\n",
		"init b=0 c=0 d=0 e=0\nthread\nli r0 1\nload r1 b\nstore e 1\nask d=1\n",
		"init a=0 b=0 d=0 e=0\nthread\nli r0 1\nload r1 b\nstore e 1\nask d=1\n",
	)
	wantLesser(t, "init a=1 b=2 c=3\nthread\nask 0:r0=0 0:r1=1\n",
		"init a=1 b=2 c=3\nthread\nask 0:r1=1\n",
		"init a=1 b=2 c=3\nthread\nask 0:r0=0\n",
		"init b=2 c=3\nthread\nask 0:r0=0 0:r1=1\n",
		"init a=1 c=3\nthread\nask 0:r0=0 0:r1=1\n",
		"init a=1 b=2\nthread\nask 0:r0=0 0:r1=1\n",
		"init a=0 b=2 c=3\nthread\nask 0:r0=0 0:r1=1\n",
		"init a=1 b=0 c=3\nthread\nask 0:r0=0 0:r1=1\n",
		"init a=1 b=2 c=0\nthread\nask 0:r0=0 0:r1=1\n",
	)
}

// P28.1: each memory instruction names its location.
func TestNamed(t *testing.T) {
	for _, line := range []string{"load r0 b", "store b 1", "swap r0 b 1", "amo r0 b 1", "lr r0 b", "sc r0 b 1"} {
		wantLesser(t, "init a=0 b=0\nthread\n"+line+"\n", "init a=0 b=0\nthread\n", "init b=0\nthread\n"+line+"\n")
	}
}

// P28.1: Acq, Rel and Dep go one by one, instruction by instruction, and ahead of the initial values.
func TestPlain(t *testing.T) {
	wantLesser(t, "init x=7\nthread\namo r0 x 1 acq rel dep r0\nthread\nload r0 x acq dep r7\nstore x 1 rel\n",
		"init x=7\nthread\nload r0 x acq dep r7\nstore x 1 rel\n",
		"init x=7\nthread\namo r0 x 1 acq rel dep r0\n",
		"init x=7\nthread\nthread\nload r0 x acq dep r7\nstore x 1 rel\n",
		"init x=7\nthread\namo r0 x 1 acq rel dep r0\nthread\nstore x 1 rel\n",
		"init x=7\nthread\namo r0 x 1 acq rel dep r0\nthread\nload r0 x acq dep r7\n",
		"init x=7\nthread\namo r0 x 1 rel dep r0\nthread\nload r0 x acq dep r7\nstore x 1 rel\n",
		"init x=7\nthread\namo r0 x 1 acq dep r0\nthread\nload r0 x acq dep r7\nstore x 1 rel\n",
		"init x=7\nthread\namo r0 x 1 acq rel\nthread\nload r0 x acq dep r7\nstore x 1 rel\n",
		"init x=7\nthread\namo r0 x 1 acq rel dep r0\nthread\nload r0 x dep r7\nstore x 1 rel\n",
		"init x=7\nthread\namo r0 x 1 acq rel dep r0\nthread\nload r0 x acq\nstore x 1 rel\n",
		"init x=7\nthread\namo r0 x 1 acq rel dep r0\nthread\nload r0 x acq dep r7\nstore x 1\n",
		"init x=0\nthread\namo r0 x 1 acq rel dep r0\nthread\nload r0 x acq dep r7\nstore x 1 rel\n",
	)
}

// P28.1: Size, part by part.
func TestSize(t *testing.T) {
	for s, want := range map[string]int{
		"thread\n":                                        100,
		"thread\nthread\nthread\nthread\n":                400,
		"thread\nli r0 1\n":                               105,
		"thread\nfence r w\nxor r1 r2 r3\n":               110,
		"init x=0\nthread\n":                              101,
		"init x=1\nthread\n":                              102,
		"init x=18446744073709551615 y=0\nthread\n":       103,
		"thread\nask 0:r0=9 0:r1=0\n":                     102,
		"init x=0\nthread\nask x=5\n":                     102,
		"thread\nbeq r0 0 0\n":                            105,
		"thread\nbeq r0 0 3\nli r0 1\nli r0 1\nli r0 1\n": 123,
		"thread\nbne r0 0 1\nbne r0 0 0\n":                111,
		"init x=0\nthread\nload r0 x\n":                   106,
		"init x=0\nthread\nload r0 x acq\n":               107,
		"init x=0\nthread\nload r0 x dep r7\n":            107,
		"init x=0\nthread\nload r0 x acq dep r0\n":        108,
		"init x=0\nthread\nstore x 1 rel\n":               107,
		"init x=0\nthread\nsc r0 x 1 rel dep r3\n":        108,
		"init x=0\nthread\namo r0 x 1 acq rel dep r3\n":   109,
		"init x=0\nthread\nthread\nswap r0 x 1 acq rel\n": 208,
		passing:                         222,
		passing + "ask 1:r0=1 1:r1=0\n": 224,
	} {
		if got := shrink.Size(parsed(t, s)); got != want {
			t.Errorf("Size of %q: %d, want %d", s, got, want)
		}
	}
}

// P28.1, P28.3: Lesser agrees with the model; each of its tests is valid and smaller.
func TestModel(t *testing.T) {
	r := rand.New(rand.NewSource(1))
	for range 4000 {
		x := random(r)
		got, want := shrink.Lesser(x), modelled(x)
		if len(got) != len(want) {
			t.Fatalf("%q: %d tests, want %d", canon.Print(&x), len(got), len(want))
		}
		for i, u := range got {
			if !same(u, want[i]) {
				t.Fatalf("%q, %d: %+v, want %+v", canon.Print(&x), i, u, want[i])
			}
			if u.Check() != api.OK || shrink.Size(u) >= shrink.Size(x) {
				t.Fatalf("%q, %d: %q of size %d, not less than %d", canon.Print(&x), i, canon.Print(&u), shrink.Size(u), shrink.Size(x))
			}
		}
	}
}

// keeps are several properties of tests.
func keeps() map[string]shrink.Keep {
	instrs := func(t litmus.Test) int {
		n := 0
		for _, thread := range t.Threads {
			n += len(thread)
		}
		return n
	}
	has := func(is func(x litmus.Instr) bool) shrink.Keep {
		return func(t litmus.Test) bool {
			return slices.ContainsFunc(t.Threads, func(thread []litmus.Instr) bool { return slices.ContainsFunc(thread, is) })
		}
	}
	return map[string]shrink.Keep{
		"anything":     func(t litmus.Test) bool { return true },
		"nothing":      func(t litmus.Test) bool { return false },
		"two threads":  func(t litmus.Test) bool { return len(t.Threads) >= 2 },
		"three events": func(t litmus.Test) bool { return t.Events() >= 3 },
		"an acq":       has(func(x litmus.Instr) bool { return x.Acq }),
		"a rel":        has(func(x litmus.Instr) bool { return x.Rel }),
		"a dep":        has(func(x litmus.Instr) bool { return x.Dep > 2 }),
		"a skip":       has(func(x litmus.Instr) bool { return x.Skip > 1 }),
		"a fence":      has(func(x litmus.Instr) bool { return x.Op == litmus.Fence }),
		"a value": func(t litmus.Test) bool {
			return slices.ContainsFunc(t.Locs, func(x litmus.Init) bool { return x.V == 2 })
		},
		"an ask": func(t litmus.Test) bool { return len(t.Asks) > 1 },
		"even":   func(t litmus.Test) bool { return instrs(t)%2 == 0 },
		"a key":  func(t litmus.Test) bool { return canon.Of(canon.Print(&t)).Key[0]%3 != 0 },
	}
}

// P28.2, P28.3: Least takes the first valid one of Lesser that is to be kept, again and again; nothing less than its result is to be kept.
func TestLeast(t *testing.T) {
	r := rand.New(rand.NewSource(2))
	taken := 0
	for range 300 {
		x := random(r)
		for name, keep := range keeps() {
			want, steps := x, 0
			for {
				list := slices.DeleteFunc(modelled(want), func(u litmus.Test) bool { return u.Check() != api.OK || !keep(u) })
				if len(list) == 0 {
					break
				}
				if shrink.Size(list[0]) >= shrink.Size(want) {
					t.Fatalf("%s: from %q to %q", name, canon.Print(&want), canon.Print(&list[0]))
				}
				want = list[0]
				steps++
			}
			got, n := shrink.Least(x, keep)
			if !same(got, want) || n != steps {
				t.Fatalf("%s of %q: %q, %d, want %q, %d", name, canon.Print(&x), canon.Print(&got), n, canon.Print(&want), steps)
			}
			if keep(x) && !keep(got) {
				t.Fatalf("%s of %q: %q has lost it", name, canon.Print(&x), canon.Print(&got))
			}
			for _, u := range shrink.Lesser(got) {
				if u.Check() == api.OK && keep(u) {
					t.Fatalf("%s of %q: %q, but %q is less", name, canon.Print(&x), canon.Print(&got), canon.Print(&u))
				}
			}
			taken += n
		}
	}
	if taken < 10000 {
		t.Errorf("only %d steps", taken)
	}
}

// P28.2: what is left of some tests, and in how many steps.
func TestLeastOf(t *testing.T) {
	weaker := func(x litmus.Test) bool {
		m := axtso.Of(&x)
		return m.HasTso && len(axtso.Only(m.Rv, m.Tso)) > 0
	}
	holds := func(x litmus.Test) bool {
		return len(x.Asks) > 0 && cond.Of(&x, rvwmo.States(&x)).Kind == cond.Some
	}
	for _, c := range []struct {
		s     string
		keep  shrink.Keep
		want  string
		steps int
	}{
		{passing, weaker, passing, 0},
		{passing + "thread\nload r0 x\n", weaker, passing, 1},
		{"init x=0 y=0\nthread\nload r0 x\nthread\nstore x 1\nstore y 1\nthread\nload r0 y\nload r1 x\n", weaker, passing, 1},
		{passing + "ask 1:r0=1 1:r1=0\n", weaker, passing, 2},
		{"init a=0 x=0 y=4\nthread\nli r5 1\nstore x 1\nfence r r\nstore y 1\nthread\nload r0 y\nfence w w\nload r1 x\n", weaker, passing, 5},
		{"init x=0 y=0\nthread\nstore x 1\nstore y 1 rel\nthread\nload r0 y\nload r1 x\n", weaker, passing, 1},
		{"init x=0 y=0\nthread\nstore x 1\nstore y 1\nthread\nload r0 y acq\nload r1 x\n", weaker, passing, 1},
		{"init x=0 y=0\nthread\nstore x 1\nstore y 1\nthread\nload r0 y\nload r1 x dep r5\n", weaker, passing, 1},
		// Where nothing of it is to be kept, nothing goes.
		{"init x=0\nthread\nstore x 1\nthread\nload r0 x\n", weaker, "init x=0\nthread\nstore x 1\nthread\nload r0 x\n", 0},
		{"init x=1 y=2\nthread\nload r0 x acq\nthread\nstore y 1\nask x=1\n", func(litmus.Test) bool { return true }, "thread\n", 5},
		{passing + "ask 1:r0=1\n", holds, "init y=0\nthread\nstore y 1\nthread\nload r0 y\nask 1:r0=1\n", 3},
		{"thread\n", func(litmus.Test) bool { return true }, "thread\n", 0},
	} {
		u, n := shrink.Least(parsed(t, c.s), c.keep)
		if got := canon.Print(&u); got != c.want || n != c.steps {
			t.Errorf("%q: %q, %d, want %q, %d", c.s, got, n, c.want, c.steps)
		}
	}
}

// P28.2: a test that is not kept itself goes to the first of Lesser that is, and stays if there is none.
func TestLeastGains(t *testing.T) {
	x := parsed(t, "thread\nli r0 1\nli r0 2\nli r0 3\n")
	u, n := shrink.Least(x, func(t litmus.Test) bool { return len(t.Threads[0]) == 2 })
	if got := canon.Print(&u); got != "thread\nli r0 2\nli r0 3\n" || n != 1 {
		t.Errorf("%q, %d", got, n)
	}
	u, n = shrink.Least(x, func(t litmus.Test) bool { return len(t.Threads[0]) == 1 })
	if !same(u, x) || n != 0 {
		t.Errorf("%q, %d", canon.Print(&u), n)
	}
}

// P28.2: only a valid test is taken, even from an invalid one.
func TestLeastValid(t *testing.T) {
	x := litmus.Test{Threads: [][]litmus.Instr{{{Op: litmus.Li, Rd: 9}, {Op: litmus.Li, Rd: 8}}, {{Op: litmus.Li}}}}
	keep := func(u litmus.Test) bool {
		if e := u.Check(); e != api.OK {
			t.Errorf("keep is asked of an invalid test: %d", e)
		}
		return true
	}
	u, n := shrink.Least(x, keep)
	if got := canon.Print(&u); got != "thread\n" || n != 2 {
		t.Errorf("%q, %d", got, n)
	}
	x.Threads = x.Threads[:1]
	if u, n = shrink.Least(x, keep); !same(u, x) || n != 0 {
		t.Errorf("%+v, %d", u, n)
	}
}

// K7: invalid tests and no Keep make no call panic.
func TestInvalid(t *testing.T) {
	tests := []litmus.Test{
		{},
		{Asks: []litmus.Atom{{Thread: -1, At: 3}, {Thread: math.MaxInt, At: -1}, {Thread: math.MinInt}}},
		{Locs: []litmus.Init{{Name: "?", V: 1}, {V: 2}}, Threads: [][]litmus.Instr{nil, nil, nil, nil, nil, nil}},
		{Threads: [][]litmus.Instr{{{Op: litmus.Beq, Skip: math.MaxInt}, {Op: litmus.Beq, Skip: math.MinInt}, {Op: 99, Loc: -7, Dep: -9, Acq: true, Rel: true}, {Op: litmus.Load, Loc: math.MaxInt}}}},
	}
	for i, x := range tests {
		shrink.Size(x)
		shrink.Lesser(x)
		shrink.Least(x, func(litmus.Test) bool { return true })
		if u, n := shrink.Least(x, nil); !same(u, x) || n != 0 {
			t.Errorf("%d: %+v, %d", i, u, n)
		}
	}
	x := parsed(t, passing)
	if u, n := shrink.Least(x, nil); !same(u, x) || n != 0 {
		t.Errorf("no Keep: %q, %d", canon.Print(&u), n)
	}
}

// spared is a test all of whose lists have something behind them, and that.
func spared(x litmus.Test) (litmus.Test, func() bool) {
	locs := append(slices.Clone(x.Locs), litmus.Init{Name: "behind", V: 1})
	asks := append(slices.Clone(x.Asks), litmus.Atom{Thread: 7, At: 7, V: 7})
	threads := append(slices.Clone(x.Threads), []litmus.Instr{{Op: 77}})
	for i, thread := range threads {
		threads[i] = append(slices.Clone(thread), litmus.Instr{Op: 99, Rd: i})[:len(thread)]
	}
	u := litmus.Test{Locs: locs[:len(x.Locs)], Asks: asks[:len(x.Asks)], Threads: threads[:len(x.Threads)]}
	return u, func() bool {
		whole := same(u, x) && locs[len(x.Locs)].V == 1 && asks[len(x.Asks)].V == 7 && threads[len(x.Threads)][0].Op == 77
		for i, thread := range u.Threads {
			whole = whole && thread[:len(thread)+1][len(thread)] == litmus.Instr{Op: 99, Rd: i}
		}
		return whole
	}
}

// spoil changes all of a test.
func spoil(x litmus.Test) {
	for i := range x.Locs {
		x.Locs[i].V = 99
	}
	for i := range x.Asks {
		x.Asks[i].At = 99
	}
	for i, thread := range x.Threads {
		for at := range thread {
			thread[at].Op = 99
		}
		x.Threads[i] = nil
	}
}

// K3: arguments stay as they are, with what is behind them; no two results share memory, nor does the result of Least share any with what keep got.
func TestMemory(t *testing.T) {
	r := rand.New(rand.NewSource(3))
	for range 300 {
		x := random(r)
		y, isWhole := spared(x)
		want := modelled(x)
		list := shrink.Lesser(y)
		for i, u := range list {
			if !same(u, want[i]) {
				t.Fatalf("%q, %d: shared with another one", canon.Print(&x), i)
			}
			spoil(u)
		}
		var asked []litmus.Test
		u, _ := shrink.Least(y, func(v litmus.Test) bool {
			asked = append(asked, v)
			return v.Events() > 1
		})
		shrink.Size(y)
		before, _ := shrink.Least(x, func(v litmus.Test) bool { return v.Events() > 1 })
		for _, v := range asked {
			spoil(v)
		}
		if !same(u, before) {
			t.Fatalf("%q: the result is shared with what keep got", canon.Print(&x))
		}
		spoil(u)
		u, _ = shrink.Least(y, func(litmus.Test) bool { return false })
		spoil(u)
		if !isWhole() {
			t.Fatalf("%q: an argument changed: %+v", canon.Print(&x), y)
		}
	}
}
