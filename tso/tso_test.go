package tso_test

import (
	"math"
	"math/rand"
	"slices"
	"strings"
	"testing"

	"ordeal/api"
	"ordeal/litmus"
	"ordeal/outcome"
	"ordeal/read"
	"ordeal/tso"
)

// parsed is the test with these initial values and threads, whose instructions are separated by strokes.
func parsed(t *testing.T, init string, threads ...string) litmus.Test {
	t.Helper()
	s := "init " + init + "\n"
	for _, list := range threads {
		s += "thread\n" + strings.ReplaceAll(list, "/", "\n") + "\n"
	}
	x, n, e := read.Parse(s)
	if e != api.OK {
		t.Fatalf("%q: %d at %d", s, e, n)
	}
	return x
}

// texts are the states of a test, in their order, each as its numbers only.
func texts(t *testing.T, x litmus.Test) []string {
	t.Helper()
	set, ok := tso.States(&x)
	if !ok || !set.Good(len(outcome.Slots(&x))) {
		t.Fatalf("%+v: %v, %v", x, set, ok)
	}
	var list []string
	for _, state := range set {
		words := strings.Fields(outcome.Text(&x, state))
		for i, word := range words {
			_, words[i], _ = strings.Cut(word, "=")
		}
		list = append(list, strings.Join(words, " "))
	}
	return list
}

// check checks all states of a test; they are separated by commas.
func check(t *testing.T, want string, threads ...string) {
	t.Helper()
	if got := strings.Join(texts(t, parsed(t, "", threads...)), ", "); got != want {
		t.Errorf("%q: %s, want %s", threads, got, want)
	}
}

// may checks how many states a test has, and whether one of them is among them.
func may(t *testing.T, count int, want bool, state string, threads ...string) {
	t.Helper()
	got := texts(t, parsed(t, "", threads...))
	if len(got) != count || slices.Contains(got, state) != want {
		t.Errorf("%q: %d states, %s: %v", threads, len(got), state, slices.Contains(got, state))
	}
}

// P14.1: the example of the chapter: store buffering.
func TestExample(t *testing.T) {
	check(t, "0 0 1 1, 0 1 1 1, 1 0 1 1, 1 1 1 1", "store x 1/load r0 y", "store y 1/load r0 x")
	check(t, "0 1 1 1, 1 0 1 1, 1 1 1 1", "store x 1/fence w r/load r0 y", "store y 1/fence w r/load r0 x")
	may(t, 4, true, "0 0 1 1", "store x 1/fence w r/load r0 y", "store y 1/load r0 x")
	may(t, 4, true, "0 0 1 1", "store x 1/load r0 y", "store y 1/fence w r/load r0 x")
}

// P14.1: a Fence waits for the buffer if Pred has Writes and Succ has Reads, where it stands between the store and the load.
func TestFences(t *testing.T) {
	for _, sides := range []string{"r r", "r w", "r rw", "w w", "rw w"} {
		may(t, 4, true, "0 0 1 1", "store x 1/fence "+sides+"/load r0 y", "store y 1/fence "+sides+"/load r0 x")
	}
	for _, sides := range []string{"w r", "w rw", "rw r", "rw rw"} {
		may(t, 3, false, "0 0 1 1", "store x 1/fence "+sides+"/load r0 y", "store y 1/fence "+sides+"/load r0 x")
		may(t, 3, false, "0 0 1 1", "store x 1/li r1 0/fence "+sides+"/fence r w/load r0 y", "store y 1/add r1 r1 0/fence "+sides+"/beq 0 1 0/load r0 x")
		may(t, 4, true, "0 0 1 1", "fence "+sides+"/store x 1/load r0 y/fence "+sides, "fence "+sides+"/store y 1/load r0 x/fence "+sides)
	}
}

// P14.1: a Fence, a Swap or an Amo that is skipped does not wait.
func TestSkippedFences(t *testing.T) {
	may(t, 4, true, "0 0 1 1", "store x 1/beq 0 0 1/fence w r/load r0 y", "store y 1/bne 0 1 1/fence w r/load r0 x")
	may(t, 3, false, "0 0 1 1", "store x 1/bne 0 0 1/fence w r/load r0 y", "store y 1/beq 0 1 1/fence w r/load r0 x")
	may(t, 4, true, "0 0 0 0 0 1 1", "store x 1/beq 0 0 1/swap r1 a 1/load r0 y", "store y 1/bne 0 1 1/amo r1 a 1/load r0 x")
	// Only one that reads the other one's store has a Fence to execute.
	may(t, 4, true, "0 0 1 1", "store x 1/load r0 y/beq r0 0 1/fence w r", "store y 1/load r0 x/beq r0 0 1/fence w r")
}

// P14.1: the known tests of the machine with store buffers, and what it does not permit of them.
func TestKnown(t *testing.T) {
	// Message passing, load buffering, stores of two locations in opposite orders.
	check(t, "0 0 1 1, 0 1 1 1, 1 1 1 1", "store x 1/store y 1", "load r0 y/load r1 x")
	check(t, "0 0 1 1, 0 1 1 1, 1 0 1 1", "load r0 x/store y 1", "load r0 y/store x 1")
	check(t, "1 2, 2 1, 2 2", "store x 1/store y 2", "store y 1/store x 2")
	// A store in between: R and S.
	may(t, 4, true, "0 1 2", "store x 1/store y 1", "store y 2/load r0 x")
	may(t, 3, false, "0 1 2", "store x 1/store y 1", "store y 2/fence w r/load r0 x")
	may(t, 3, false, "1 2 1", "store x 2/store y 1", "load r0 y/store x 1")
	// What one thread has seen, others see too: WRC and IRIW.
	may(t, 7, false, "1 1 0 1 1", "store x 1", "load r0 x/store y 1", "load r0 y/load r1 x")
	may(t, 15, false, "1 0 1 0 1 1", "store x 1", "load r0 x/load r1 y", "load r0 y/load r1 x", "store y 1")
	// Loads of one location do not go back.
	may(t, 3, false, "1 0 1", "store x 1", "load r0 x/load r1 x")
	may(t, 6, false, "2 1 2", "store x 1/store x 2", "load r0 x/load r1 x")
	// Own stores are read early, but each thread agrees on the order of the stores of a location.
	check(t, "0 1 1 0 1 1, 0 1 1 1 1 1, 1 1 1 0 1 1, 1 1 1 1 1 1",
		"store x 1/load r1 x/load r0 y", "store y 1/load r0 y/load r1 x")
	check(t, "1 0 1 2, 1 0 2 2, 1 2 1 2, 1 2 2 2, 2 2 2 2", "store x 1/load r0 x/load r1 y", "store y 2/store x 2")
	may(t, 4, false, "2 1 1", "store x 1/load r0 x", "store x 2/load r0 x")
	may(t, 4, false, "2 1 2", "store x 1/load r0 x", "store x 2/load r0 x")
}

// P14.1: a load reads the youngest store to its location in its own buffer.
func TestOwnBuffer(t *testing.T) {
	check(t, "2 1 0 2 1 0", "store x 1/store y 1/store x 2/load r0 x/load r1 y/load r2 z/store z 0")
	check(t, "1 2 2", "store x 1/load r0 x/store x 2/load r1 x")
	check(t, "3 3", "store x 1/store x 2/store x 3/load r0 x")
	check(t, "3 0 3, 3 1 3, 3 2 3, 3 3 3", "store x 1/store x 2/store x 3/load r0 x", "load r0 x")
}

// P14.1: Swap and Amo wait until the buffer is empty, and are one step.
func TestLocked(t *testing.T) {
	for _, op := range []string{"swap", "amo"} {
		may(t, 3, false, "0 0 0 0 1 1", op+" r1 x 1/load r0 y", op+" r1 y 1/load r0 x")
		may(t, 3, false, "0 0 0 0 1 1 1 1", "store x 1/"+op+" r1 a 1/load r0 y", "store y 1/"+op+" r1 b 1/load r0 x")
		may(t, 3, false, "0 0 1 1", "store x 1/"+op+" r0 y 1", "store y 1/load r0 y/fence w r/load r0 x")
	}
	check(t, "0 1 2, 2 0 1", "swap r0 x 1", "swap r0 x 2")
	check(t, "0 1 3, 2 0 3", "amo r0 x 1", "amo r0 x 2")
	check(t, "0 1 3 7, 0 5 1 7, 2 0 3 7, 4 5 0 7, 6 0 2 7, 6 4 0 7", "amo r0 x 1", "amo r0 x 2", "amo r0 x 4")
	check(t, "5 5", "li r0 5/store x r0/swap r0 x r0")
	check(t, "5 10", "li r0 5/store x r0/amo r0 x r0")
	check(t, "0 3 3", "swap r0 x 3/load r1 x")
}

// P14.1: Acq, Rel and Dep have no effect.
func TestMarks(t *testing.T) {
	may(t, 4, true, "0 0 1 1", "store x 1 rel/load r0 y acq", "store y 1 rel dep r1/load r0 x acq dep r1")
	check(t, "0 0 0 1 1, 0 1 0 1 1, 1 0 0 1 1, 1 1 0 1 1", "swap r0 a 0 acq/store x 1 rel/load r0 y acq", "amo r0 a 0 acq rel dep r0/load r0 x acq/store y 1")
}

// P14.1: initial values, locations that are never stored to, and values that wrap around.
func TestValues(t *testing.T) {
	for want, x := range map[string]litmus.Test{
		"7 7 9":                  parsed(t, "x=7 y=9", "load r0 x"),
		"18446744073709551615 1": parsed(t, "x=18446744073709551615", "amo r0 x 2"),
		"5 6":                    parsed(t, "a=5 b=6", "", ""),
		"0":                      parsed(t, "", "li r3 0"),
		"":                       parsed(t, "", ""),
		"3 4 18446744073709551615 18446744073709551614 4": parsed(t, "x=4", "li r0 3/load r1 x/sub r2 r0 r1/xor r3 r2 1"),
		"1 2 3 4 5 6 7 8": parsed(t, "a=1 b=2 c=3 d=4 e=5 f=6 g=7 h=8", "fence rw rw", "", "", ""),
	} {
		if got := texts(t, x); !slices.Equal(got, []string{want}) {
			t.Errorf("%+v: %q, want %q", x, got, want)
		}
	}
}

// P14.1: what threads compute, and where they branch.
func TestThreads(t *testing.T) {
	check(t, "7 3 21 9", "li r0 7/li r1 3/add r3 r0 2/add r2 r0 r0/add r2 r2 r0", "")
	check(t, "1 48 3 6 2 7", "li r0 1/shl r1 3 68/shr r2 r1 4/and r3 14 7/and r4 r3 r2/or r5 6 3")
	check(t, "0 0 1, 1 1 1", "store x 1", "load r0 x/beq r0 0 1/li r1 1")
	check(t, "0 1 0 1 0, 1 0 0 1 1", "store x 1", "load r0 x/bne r0 0 2/li r1 1/beq 0 0 1/store y 1/add r2 r2 0")
	check(t, "0 5 0", "beq 0 0 3/store x 1/bne 0 1 5/li r0 1/li r1 5/bne r1 4 2/li r0 2/store x 2")
	check(t, "0 0 0 5, 0 1 1 5", "load r0 x/store y 5", "load r0 y/and r0 r0 1/store x r0")
}

// P14.1: a test that has an Lr or a Sc is not tried, even if it is skipped.
func TestPairs(t *testing.T) {
	for _, list := range []string{"lr r0 x", "sc r0 x 1", "store x 1/lr r0 x/sc r1 x 1", "beq 0 0 1/lr r0 x", "beq 0 0 1/sc r0 x 1"} {
		x, y := parsed(t, "", list, "load r0 x"), parsed(t, "", "load r0 x", list)
		for _, test := range []litmus.Test{x, y} {
			if set, ok := tso.States(&test); ok || len(set) > 0 {
				t.Errorf("%q: %v, %v", list, set, ok)
			}
		}
	}
}

// P14.1: all states of random tests are those of a machine in which every instruction is a step.
func TestMachine(t *testing.T) {
	r := rand.New(rand.NewSource(1))
	for i := range 10000 {
		x := random(r, 2, 5, 8)
		if i%10 == 0 {
			x = random(r, 3, 4, 8)
		}
		if i%30 == 0 {
			x = random(r, 4, 2, 8)
		}
		got, ok := tso.States(&x)
		if want := stepped(x); !ok || !slices.Equal(got, want) {
			t.Fatalf("%+v: %v, %v, want %v", x, got, ok, want)
		}
	}
}

// P14.1: all states of random tests are those of the axiomatic model.
func TestAxioms(t *testing.T) {
	r := rand.New(rand.NewSource(2))
	for i := range 10000 {
		x := random(r, 3, 5, 5)
		if i%10 == 0 {
			x = random(r, 4, 3, 6)
		}
		got, ok := tso.States(&x)
		if want := axioms(x); !ok || !slices.Equal(got, want) {
			t.Fatalf("%+v: %v, %v, want %v", x, got, ok, want)
		}
	}
}

// P14.1: the known tests, by the axiomatic model.
func TestKnownAxioms(t *testing.T) {
	for _, threads := range [][]string{
		{"store x 1/load r0 y", "store y 1/load r0 x"},
		{"store x 1/fence w r/load r0 y", "store y 1/fence w r/load r0 x"},
		{"store x 1/swap r1 a 1/load r0 y", "store y 1/amo r1 a 1/load r0 x"},
		{"store x 1/load r1 x/load r0 y", "store y 1/load r0 y/load r1 x"},
		{"store x 1/load r0 x/load r1 y", "store y 2/store x 2"},
		{"store x 1", "load r0 x/load r1 y", "load r0 y/load r1 x", "store y 1"},
		{"store x 1/load r0 y/beq r0 0 1/fence w r/load r1 z", "store y 1/store z 2/load r0 x"},
	} {
		x := parsed(t, "", threads...)
		got, _ := tso.States(&x)
		if want := axioms(x); !slices.Equal(got, want) {
			t.Errorf("%q: %v, want %v", threads, got, want)
		}
	}
}

// P1: the greatest tests end too; where threads have as much to compute as they may, that does not add to what there is to explore.
func TestGreatest(t *testing.T) {
	const local = "/li r1 1/add r1 r1 1/xor r1 r1 1/and r1 r1 7/or r1 r1 8/shl r1 r1 1"
	stores := []string{"store x 1/store x 2" + local, "store x 3/store x 4" + local, "store x 5/store x 6" + local, "store x 7/store x 8" + local}
	if got := texts(t, parsed(t, "", stores...)); len(got) != 4 || got[0] != "22 22 22 22 2" {
		t.Errorf("%v", got)
	}
	var both []string
	for _, loc := range []string{"x", "y", "z", "w"} {
		both = append(both, "store "+loc+" 1/load r0 w"+local)
	}
	if got := texts(t, parsed(t, "", both...)); len(got) != 8 {
		t.Errorf("%d states", len(got))
	}
}

// P14.1, K3 and K4: the test is not changed, a set belongs to the caller, and the same test has the same one again.
func TestSetsShareNothing(t *testing.T) {
	x := parsed(t, "x=3", "store x 1/load r0 y", "amo r1 y 1/load r0 x")
	before := parsed(t, "x=3", "store x 1/load r0 y", "amo r1 y 1/load r0 x")
	first, _ := tso.States(&x)
	want := slices.Clone(first)
	clear(first)
	for range 10 {
		if got, ok := tso.States(&x); !ok || !slices.Equal(got, want) {
			t.Fatalf("%v, %v, want %v", got, ok, want)
		}
	}
	for i := range x.Threads {
		if !slices.Equal(x.Threads[i], before.Threads[i]) || !slices.Equal(x.Locs, before.Locs) {
			t.Errorf("the test is changed: %+v", x)
		}
	}
}

// K7: invalid tests do no harm.
func TestInvalid(t *testing.T) {
	for op := -2; op < 21; op++ {
		for _, n := range []int{math.MinInt, -1, 3, 8, 9, 64, math.MaxInt} {
			bad := litmus.Instr{Op: op, Rd: n, Loc: n, A: litmus.Arg{Reg: true, N: uint64(n)}, B: litmus.Arg{Reg: true, N: 8}, Dep: n, Pred: n, Succ: n, Skip: n}
			x := litmus.Test{Threads: [][]litmus.Instr{{bad, bad}, slices.Repeat([]litmus.Instr{bad}, 70)}}
			if set, ok := tso.States(&x); ok || len(set) > 0 {
				t.Errorf("%+v: %v, %v", x, set, ok)
			}
		}
	}
	for _, x := range []litmus.Test{{}, {Threads: make([][]litmus.Instr, 5)}, {Threads: make([][]litmus.Instr, 1), Locs: make([]litmus.Init, 9)}} {
		if set, ok := tso.States(&x); ok || len(set) > 0 {
			t.Errorf("%+v: %v, %v", x, set, ok)
		}
	}
}
