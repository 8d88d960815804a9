package seqc_test

import (
	"maps"
	"math"
	"math/rand"
	"slices"
	"strings"
	"testing"

	"ordeal/api"
	"ordeal/litmus"
	"ordeal/outcome"
	"ordeal/read"
	"ordeal/seqc"
	"ordeal/tso"
)

// parsed is the test with these initial values and threads, whose instructions are separated by strokes.
func parsed(t *testing.T, init string, threads ...string) litmus.Test {
	t.Helper()
	s := "init " + init + "\n"
	for _, list := range threads {
		s += "thread\n" + strings.ReplaceAll(list, "/", "\n") + "\n"
	}
	x, n, e := read.Parse(s)
	if e != api.OK {
		t.Fatalf("%q: %d at %d", s, e, n)
	}
	return x
}

// texts are the states of a test, in their order, each as its numbers only.
func texts(t *testing.T, x litmus.Test) []string {
	t.Helper()
	set := seqc.States(&x)
	if !set.Good(len(outcome.Slots(&x))) {
		t.Fatalf("%+v: %v", x, set)
	}
	var list []string
	for _, state := range set {
		words := strings.Fields(outcome.Text(&x, state))
		for i, word := range words {
			_, words[i], _ = strings.Cut(word, "=")
		}
		list = append(list, strings.Join(words, " "))
	}
	return list
}

// check checks all states of a test; they are separated by commas.
func check(t *testing.T, want string, threads ...string) {
	t.Helper()
	if got := strings.Join(texts(t, parsed(t, "", threads...)), ", "); got != want {
		t.Errorf("%q: %s, want %s", threads, got, want)
	}
}

// may checks how many states a test has, and whether one of them is among them.
func may(t *testing.T, count int, want bool, state string, threads ...string) {
	t.Helper()
	got := texts(t, parsed(t, "", threads...))
	if len(got) != count || slices.Contains(got, state) != want {
		t.Errorf("%q: %d states, %s: %v", threads, len(got), state, slices.Contains(got, state))
	}
}

// P15.1: the examples of the chapter: store buffering, and two pairs, of which not both succeed if both Lrs read the same.
func TestExamples(t *testing.T) {
	check(t, "0 1 1 1, 1 0 1 1, 1 1 1 1", "store x 1/load r0 y", "store y 1/load r0 x")
	check(t, "0 0 0 1 1, 0 0 1 0 2, 0 0 1 1 1, 0 1 0 0 2, 0 1 0 1 0, 2 0 0 0 1, 2 1 0 0 2", "lr r0 x/sc r1 x 1", "lr r0 x/sc r1 x 2")
}

// P15.1: the known tests, of which one after the other permits less than the other models.
func TestKnown(t *testing.T) {
	// Message passing, load buffering, stores of two locations in opposite orders.
	check(t, "0 0 1 1, 0 1 1 1, 1 1 1 1", "store x 1/store y 1", "load r0 y/load r1 x")
	check(t, "0 0 1 1, 0 1 1 1, 1 0 1 1", "load r0 x/store y 1", "load r0 y/store x 1")
	check(t, "1 2, 2 1, 2 2", "store x 1/store y 2", "store y 1/store x 2")
	// A store in between: R and S.
	check(t, "0 1 1, 1 1 1, 1 1 2", "store x 1/store y 1", "store y 2/load r0 x")
	may(t, 3, false, "1 2 1", "store x 2/store y 1", "load r0 y/store x 1")
	// What one thread has seen, others see too: WRC and IRIW.
	may(t, 7, false, "1 1 0 1 1", "store x 1", "load r0 x/store y 1", "load r0 y/load r1 x")
	may(t, 15, false, "1 0 1 0 1 1", "store x 1", "load r0 x/load r1 y", "load r0 y/load r1 x", "store y 1")
	// Loads of one location do not go back.
	check(t, "0 0 1, 0 1 1, 1 1 1", "store x 1", "load r0 x/load r1 x")
	may(t, 6, false, "2 1 2", "store x 1/store x 2", "load r0 x/load r1 x")
	// Own stores are not read early.
	check(t, "0 1 1 1 1 1, 1 1 1 0 1 1, 1 1 1 1 1 1", "store x 1/load r1 x/load r0 y", "store y 1/load r0 y/load r1 x")
	check(t, "1 0 2 2, 1 2 1 2, 1 2 2 2, 2 2 2 2", "store x 1/load r0 x/load r1 y", "store y 2/store x 2")
	check(t, "3 0 3, 3 1 3, 3 2 3, 3 3 3", "store x 1/store x 2/store x 3/load r0 x", "load r0 x")
}

// P15.1: Fence, Acq, Rel and Dep have no effect.
func TestMarks(t *testing.T) {
	buffering := "0 1 1 1, 1 0 1 1, 1 1 1 1"
	for _, sides := range []string{"r r", "r w", "w r", "w w", "rw rw"} {
		check(t, buffering, "fence "+sides+"/store x 1/fence "+sides+"/load r0 y/fence "+sides, "store y 1/fence "+sides+"/load r0 x")
	}
	check(t, buffering, "store x 1 rel/load r0 y acq", "store y 1 rel dep r1/load r0 x acq dep r1")
	check(t, "0 0 1 1, 0 1 1 1, 1 1 1 1", "store x 1 rel/store y 1 rel", "load r0 y acq/load r1 x acq dep r0")
	check(t, "0 1 2, 2 0 1", "swap r0 x 1 acq rel", "swap r0 x 2 acq rel dep r0")
	check(t, "0 0 3, 0 1 0", "lr r0 x acq/fence rw rw/sc r1 x 3 rel dep r0")
	check(t, "0 1 3, 2 0 3", "amo r0 x 1 acq", "amo r0 x 2 rel dep r3")
}

// P15.1: Swap and Amo read and write at once.
func TestAtOnce(t *testing.T) {
	check(t, "0 1 2, 2 0 1", "swap r0 x 1", "swap r0 x 2")
	check(t, "0 1 3 7, 0 5 1 7, 2 0 3 7, 4 5 0 7, 6 0 2 7, 6 4 0 7", "amo r0 x 1", "amo r0 x 2", "amo r0 x 4")
	check(t, "5 5", "li r0 5/store x r0/swap r0 x r0")
	check(t, "5 10", "li r0 5/store x r0/amo r0 x r0")
	check(t, "0 3 3", "swap r0 x 3/load r1 x")
	// What is not at once may lose a store.
	check(t, "0 0 1, 0 0 2, 0 1 2, 2 0 1", "load r0 x/store x 1", "load r0 x/store x 2")
}

// P15.1: a Sc may always fail; it sets Rd to 0 or 1, and stores what A has before.
func TestSc(t *testing.T) {
	check(t, "0 0 7, 0 1 0", "lr r0 x/sc r1 x 7")
	check(t, "0 7, 1 0", "lr r0 x/li r0 7/sc r0 x r0")
	check(t, "0 1, 1 0", "lr r0 x/li r0 9/sc r0 x 1")
	check(t, "1 0", "sc r0 x 5")
	check(t, "1 0 0", "sc r0 x 5", "lr r0 x")
	for want, x := range map[string]litmus.Test{
		"3 0 7, 3 1 3": parsed(t, "x=3", "lr r0 x/sc r1 x 7"),
		"3 0 3, 3 1 3": parsed(t, "x=3", "lr r0 x/sc r1 x r0"),
		"0 3, 1 3":     parsed(t, "x=3", "lr r0 x/sc r0 x r0"),
	} {
		if got := strings.Join(texts(t, x), ", "); got != want {
			t.Errorf("%+v: %s, want %s", x, got, want)
		}
	}
}

// P15.1: an Lr takes the place of what its thread had reserved; a Sc takes it away, whether it succeeds or fails, and at whatever location.
func TestGivenUp(t *testing.T) {
	check(t, "0 0 1 0 0", "lr r0 x/lr r1 y/sc r2 x 1")
	check(t, "0 0 0 0 1, 0 0 1 0 0", "lr r0 x/lr r1 y/sc r2 y 1")
	check(t, "0 0 0 1, 0 0 1 0", "lr r0 x/lr r1 x/sc r2 x 1")
	check(t, "0 0 1 1, 0 1 1 0", "lr r0 x/sc r1 x 1/sc r2 x 2")
	check(t, "0 1 1 0 0", "lr r0 x/sc r1 y 1/sc r2 x 2")
	check(t, "0 1 0 0", "lr r0 x/sc r1 y 1")
	// Each pair is one of its own.
	check(t, "0 0 1 0 2, 0 0 1 1 1, 0 1 0 0 2, 0 1 0 1 0", "lr r0 x/sc r1 x 1/lr r2 x/sc r3 x 2")
}

// P15.1: what is skipped neither reserves, nor takes away what is reserved.
func TestSkippedPairs(t *testing.T) {
	check(t, "0 1 0", "beq 0 0 1/lr r0 x/sc r1 x 1")
	check(t, "0 0 0 1 0, 0 0 1 0 0", "lr r0 x/beq 0 0 1/lr r1 y/sc r2 x 1")
	check(t, "0 0 0 1, 0 0 1 0", "lr r0 x/bne 0 1 1/sc r1 x 5/sc r2 x 1")
	check(t, "0 0 0", "lr r0 x/beq r0 0 1/sc r1 x 1")
	check(t, "0 0 5, 0 1 5, 5 0 5", "lr r0 x/bne r0 0 1/sc r1 x 1", "store x 5")
}

// P15.1: a thread's own stores do not take away what it has reserved, and neither do the loads of any thread.
func TestOwnStores(t *testing.T) {
	check(t, "0 0 1, 0 1 3", "lr r0 x/store x 3/sc r1 x 1")
	check(t, "0 0 0 1, 0 1 0 3", "lr r0 x/swap r2 x 3/sc r1 x 1")
	check(t, "0 0 0 1, 0 1 0 3", "lr r0 x/amo r2 x 3/sc r1 x 1")
	check(t, "0 0 0 1, 0 1 0 0", "lr r0 x/load r2 x/sc r1 x 1")
}

// between are the results of a Sc (0 or 1) in the states in which another thread (with the registers r0 and r1) executed what stands between its stores to y while the Sc's thread had the location reserved; fails is whether r1 of that thread is 1.
func between(t *testing.T, other string, fails bool) string {
	t.Helper()
	x := parsed(t, "", "lr r0 x/load r2 y/load r3 y/sc r1 x 1", "li r0 0/li r1 0/"+other)
	seen := map[string]bool{}
	for _, text := range texts(t, x) {
		v := strings.Fields(text)
		if v[2] == "0" && v[3] == "2" && (v[5] == "1") == fails {
			seen[v[1]] = true
		}
	}
	return strings.Join(slices.Sorted(maps.Keys(seen)), " ")
}

// P15.1: a Sc fails if another thread has stored to the location since the Lr, in whatever way, and even if the value is the same; it may succeed after anything else.
func TestStoresBetween(t *testing.T) {
	check(t, "0 0 5, 0 1 5, 5 0 1, 5 1 5", "lr r0 x/sc r1 x 1", "store x 5")
	for _, c := range []struct {
		other string
		fails bool
		want  string
	}{
		{"store y 1/store x 0/store y 2", false, "1"},
		{"store y 1/swap r0 x 0/store y 2", false, "1"},
		{"store y 1/amo r0 x 0/store y 2", false, "1"},
		{"lr r0 x/store y 1/sc r1 x 0/store y 2", false, "1"},
		{"lr r0 x/store y 1/sc r1 x 0/store y 2", true, "0 1"},
		{"store y 1/store x 1/store x 0/store y 2", false, "1"},
		{"store x 0/store y 1/store y 2", false, "0 1"},
		{"store y 1/store y 2/store x 0", false, "0 1"},
		{"store y 1/load r0 x/store y 2", false, "0 1"},
		{"store y 1/lr r0 x/store y 2", false, "0 1"},
		{"store y 1/sc r1 x 0/store y 2", true, "0 1"},
		{"store y 1/store a 0/store y 2", false, "0 1"},
		{"store y 1/swap r0 z 0/store y 2", false, "0 1"},
		{"store y 1/amo r0 z 0/store y 2", false, "0 1"},
		{"store y 1/beq 0 0 1/store x 0/store y 2", false, "0 1"},
	} {
		if got := between(t, c.other, c.fails); got != c.want {
			t.Errorf("%s, %v: %q, want %q", c.other, c.fails, got, c.want)
		}
	}
}

// P15.1: what an Lr reserves it reserves for its own thread only.
func TestOwnReservation(t *testing.T) {
	for _, text := range texts(t, parsed(t, "", "lr r0 x", "sc r1 x 1", "lr r0 x/sc r1 x 2")) {
		if v := strings.Fields(text); v[1] != "1" || v[4] == "1" {
			t.Errorf("%s", text)
		}
	}
}

// P15.1: a lock that is taken by Lr and Sc lets in one thread only.
func TestLock(t *testing.T) {
	const enter = "lr r0 x/bne r0 0 3/sc r1 x 1/bne r1 0 1/amo r2 c 1"
	counts := map[string]int{}
	for _, text := range texts(t, parsed(t, "", enter, enter)) {
		c := strings.Fields(text)[6]
		counts[c]++
	}
	if len(counts) != 2 || counts["0"] == 0 || counts["1"] == 0 {
		t.Errorf("%v", counts)
	}
}

// P15.1: initial values, locations that are never stored to, and values that wrap around.
func TestValues(t *testing.T) {
	for want, x := range map[string]litmus.Test{
		"7 7 9":                  parsed(t, "x=7 y=9", "load r0 x"),
		"18446744073709551615 1": parsed(t, "x=18446744073709551615", "amo r0 x 2"),
		"5 6":                    parsed(t, "a=5 b=6", "", ""),
		"0":                      parsed(t, "", "li r3 0"),
		"":                       parsed(t, "", ""),
		"3 4 18446744073709551615 18446744073709551614 4": parsed(t, "x=4", "li r0 3/load r1 x/sub r2 r0 r1/xor r3 r2 1"),
		"1 2 3 4 5 6 7 8": parsed(t, "a=1 b=2 c=3 d=4 e=5 f=6 g=7 h=8", "fence rw rw", "", "", ""),
	} {
		if got := texts(t, x); !slices.Equal(got, []string{want}) {
			t.Errorf("%+v: %q, want %q", x, got, want)
		}
	}
}

// P15.1: what threads compute, and where they branch.
func TestThreads(t *testing.T) {
	check(t, "7 3 21 9", "li r0 7/li r1 3/add r3 r0 2/add r2 r0 r0/add r2 r2 r0", "")
	check(t, "1 48 3 6 2 7", "li r0 1/shl r1 3 68/shr r2 r1 4/and r3 14 7/and r4 r3 r2/or r5 6 3")
	check(t, "0 0 1, 1 1 1", "store x 1", "load r0 x/beq r0 0 1/li r1 1")
	check(t, "0 1 0 1 0, 1 0 0 1 1", "store x 1", "load r0 x/bne r0 0 2/li r1 1/beq 0 0 1/store y 1/add r2 r2 0")
	check(t, "0 5 0", "beq 0 0 3/store x 1/bne 0 1 5/li r0 1/li r1 5/bne r1 4 2/li r0 2/store x 2")
	check(t, "0 0 0 5, 0 1 1 5", "load r0 x/store y 5", "load r0 y/and r0 r0 1/store x r0")
}

// kinds are random tests without and with Lr and Sc, of several sizes, of at most so many Ops.
func kinds(r *rand.Rand, i, ops int) litmus.Test {
	from := often
	if i%2 == 0 {
		from = paired
	}
	switch i % 7 {
	case 0:
		return random(r, from, 3, 4, ops)
	case 1:
		return random(r, from, 4, 3, ops)
	}
	return random(r, from, 2, 6, ops)
}

// P15.1: all states of random tests are those of a machine in which every instruction is a step.
func TestMachine(t *testing.T) {
	r := rand.New(rand.NewSource(1))
	for i := range 8000 {
		x := kinds(r, i, 8)
		got := seqc.States(&x)
		if want := stepped(x); !slices.Equal(got, want) {
			t.Fatalf("%+v: %v, want %v", x, got, want)
		}
	}
}

// P15.1: all states of random tests are those of the axiomatic model.
func TestAxioms(t *testing.T) {
	r := rand.New(rand.NewSource(2))
	for i := range 8000 {
		x := kinds(r, i, 6)
		got := seqc.States(&x)
		if want := axioms(x); !slices.Equal(got, want) {
			t.Fatalf("%+v: %v, want %v", x, got, want)
		}
	}
}

// P15.1: the known tests, by the axiomatic model.
func TestKnownAxioms(t *testing.T) {
	for _, threads := range [][]string{
		{"store x 1/load r0 y", "store y 1/load r0 x"},
		{"store x 1/load r1 x/load r0 y", "store y 1/load r0 y/load r1 x"},
		{"store x 1", "load r0 x/load r1 y", "load r0 y/load r1 x", "store y 1"},
		{"swap r0 x 1/amo r1 y 1", "amo r0 y 2/swap r1 x 2"},
		{"lr r0 x/sc r1 x 1", "lr r0 x/sc r1 x 2"},
		{"lr r0 x/sc r1 x 1", "lr r0 x/sc r1 x 2", "lr r0 x/sc r1 x 4"},
		{"lr r0 x/store x 3/sc r1 x 1", "store x 5/load r0 x"},
		{"lr r0 x/sc r1 x 1", "lr r0 x/store x 0", "swap r0 x 0"},
		{"lr r0 x/bne r0 0 1/sc r1 x 1", "lr r0 x/lr r1 y/sc r2 x 1/sc r3 y 1"},
	} {
		x := parsed(t, "", threads...)
		got := seqc.States(&x)
		if want := axioms(x); !slices.Equal(got, want) {
			t.Errorf("%q: %v, want %v", threads, got, want)
		}
	}
}

// P15.2: without Lr and Sc, each state is also one of the machine with store buffers.
func TestWithinTso(t *testing.T) {
	r := rand.New(rand.NewSource(3))
	fewer := 0
	for i := range 6000 {
		x := random(r, often, 1+i%4, 5, 8)
		if i%2 == 0 {
			x = random(r, []int{litmus.Load, litmus.Store}, 4, 4, 8)
		}
		weak, ok := tso.States(&x)
		got := seqc.States(&x)
		if !ok || len(got) == 0 || !got.Within(weak) {
			t.Fatalf("%+v: %v, %v, %v", x, got, weak, ok)
		}
		if len(got) < len(weak) {
			fewer++
		}
	}
	if fewer < 20 {
		t.Errorf("only %d tests have fewer states", fewer)
	}
}

// P15.2: with one thread, or a full Fence between all memory instructions, the states are those of the machine with store buffers.
func TestLikeTso(t *testing.T) {
	r := rand.New(rand.NewSource(4))
	for i := range 3000 {
		x := random(r, often, 1, 8, 8)
		if i%2 == 0 {
			x = random(r, []int{litmus.Load, litmus.Store, litmus.Swap, litmus.Amo, litmus.Li}, 3, 4, 8)
			fence(&x)
		}
		weak, _ := tso.States(&x)
		if got := seqc.States(&x); x.Check() != api.OK || !slices.Equal(got, weak) {
			t.Fatalf("%+v: %v, %v", x, got, weak)
		}
	}
}

// fence puts a full Fence behind each instruction.
func fence(x *litmus.Test) {
	for i, list := range x.Threads {
		x.Threads[i] = nil
		for _, instr := range list {
			x.Threads[i] = append(x.Threads[i], instr, litmus.Instr{Op: litmus.Fence, Pred: litmus.Writes, Succ: litmus.Reads})
		}
	}
}

// P1: the greatest tests end too.
func TestGreatest(t *testing.T) {
	const local = "/li r1 1/add r1 r1 1/xor r1 r1 1/and r1 r1 7/or r1 r1 8/shl r1 r1 1"
	stores := []string{"store x 1/store x 2" + local, "store x 3/store x 4" + local, "store x 5/store x 6" + local, "store x 7/store x 8" + local}
	if got := texts(t, parsed(t, "", stores...)); len(got) != 4 || got[0] != "22 22 22 22 2" {
		t.Errorf("%v", got)
	}
	var pairs []string
	for _, n := range []string{"1", "2", "3", "4"} {
		pairs = append(pairs, "lr r0 x/sc r2 x "+n+local)
	}
	got := texts(t, parsed(t, "", pairs...))
	for _, text := range got {
		// x has what a Sc stored that succeeded, or none did.
		v := strings.Fields(text)
		worked := map[string]bool{"0": true, "1": v[2] == "0", "2": v[5] == "0", "3": v[8] == "0", "4": v[11] == "0"}
		if !worked[v[12]] || (v[12] == "0") != (v[2]+v[5]+v[8]+v[11] == "1111") {
			t.Errorf("%s", text)
		}
	}
	if len(got) < 100 {
		t.Errorf("%d states", len(got))
	}
	check(t, "1 1 1 1 1 1 1 1 0", "sc r0 x 1/sc r1 x 2/sc r2 x 3/sc r3 x 4/sc r4 x 5/sc r5 x 6/sc r6 x 7/sc r7 x 8")
}

// P15.1, K3 and K4: the test is not changed, a set belongs to the caller, and the same test has the same one again.
func TestSetsShareNothing(t *testing.T) {
	x := parsed(t, "x=3", "lr r0 x/sc r1 x 1/load r2 y", "amo r1 y 1/store x 2")
	before := parsed(t, "x=3", "lr r0 x/sc r1 x 1/load r2 y", "amo r1 y 1/store x 2")
	first := seqc.States(&x)
	want := slices.Clone(first)
	clear(first)
	for range 10 {
		if got := seqc.States(&x); len(got) == 0 || !slices.Equal(got, want) {
			t.Fatalf("%v, want %v", got, want)
		}
	}
	for i := range x.Threads {
		if !slices.Equal(x.Threads[i], before.Threads[i]) || !slices.Equal(x.Locs, before.Locs) {
			t.Errorf("the test is changed: %+v", x)
		}
	}
}

// P15.1: what a test asks for does not matter.
func TestAsks(t *testing.T) {
	x, n, e := read.Parse("thread\nload r0 x\nthread\nstore x 1\nask 0:r0=1 0:r5=2 x=7")
	if e != api.OK {
		t.Fatalf("%d at %d", e, n)
	}
	if got := texts(t, x); !slices.Equal(got, []string{"0 1", "1 1"}) {
		t.Errorf("%v", got)
	}
}

// K7: invalid tests do no harm.
func TestInvalid(t *testing.T) {
	for op := -2; op < 21; op++ {
		for _, n := range []int{math.MinInt, -1, 3, 8, 9, 64, math.MaxInt} {
			bad := litmus.Instr{Op: op, Rd: n, Loc: n, A: litmus.Arg{Reg: true, N: uint64(n)}, B: litmus.Arg{Reg: true, N: 8}, Dep: n, Pred: n, Succ: n, Skip: n}
			seqc.States(&litmus.Test{Threads: [][]litmus.Instr{{bad, bad}, slices.Repeat([]litmus.Instr{bad}, 70)}})
			seqc.States(&litmus.Test{Locs: []litmus.Init{{Name: "x"}}, Threads: [][]litmus.Instr{{bad}}})
		}
	}
	for _, x := range []litmus.Test{{}, {Threads: make([][]litmus.Instr, 5)}, {Threads: make([][]litmus.Instr, 1), Locs: make([]litmus.Init, 9)}} {
		seqc.States(&x)
	}
}
