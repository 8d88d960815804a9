package cond_test

import (
	"fmt"
	"math"
	"math/rand"
	"slices"
	"strconv"
	"strings"
	"testing"

	"ordeal/api"
	"ordeal/cond"
	"ordeal/litmus"
	"ordeal/outcome"
	"ordeal/read"
	"ordeal/rvwmo"
	"ordeal/tso"
)

// passing is the message-passing test with these atoms.
func passing(t *testing.T, asks string) litmus.Test {
	t.Helper()
	return parsed(t, "thread\nstore x 1\nstore y 1\nthread\nload r0 y\nload r1 x\nask "+asks)
}

// parsed is the test of a text.
func parsed(t *testing.T, s string) litmus.Test {
	t.Helper()
	x, n, e := read.Parse(s)
	if e != api.OK {
		t.Fatalf("%q: %d at %d", s, e, n)
	}
	return x
}

// state has these numbers.
func state(list ...uint64) outcome.State {
	s := outcome.State{N: len(list)}
	copy(s.V[:], list)
	return s
}

// four are the states of message passing under RVWMO.
func four() outcome.Set {
	return outcome.Set{state(0, 0, 1, 1), state(0, 1, 1, 1), state(1, 0, 1, 1), state(1, 1, 1, 1)}
}

// P20.1: the condition holds in a state if all atoms do.
func TestHolds(t *testing.T) {
	s := state(1, 0, 7, math.MaxUint64)
	for asks, want := range map[string]bool{
		"":                                       true,
		"1:r0=1":                                 true,
		"1:r0=0":                                 false,
		"1:r1=0":                                 true,
		"1:r1=1":                                 false,
		"1:r0=1 1:r1=0":                          true,
		"1:r0=1 1:r1=1":                          false,
		"1:r0=0 1:r1=0":                          false,
		"x=7":                                    true,
		"x=1":                                    false,
		"y=18446744073709551615":                 true,
		"y=0":                                    false,
		"x=7 y=18446744073709551615":             true,
		"x=7 y=7":                                false,
		"x=6 y=18446744073709551615":             false,
		"1:r0=1 1:r1=0 x=7 y=0xffffffffffffffff": true,
		"1:r0=1 1:r1=0 x=7 y=0xfffffffffffffffe": false,
		"1:r0=0x10000000000000":                  false,
		"1:r5=0":                                 true,
		"1:r5=1":                                 false,
		"0:r0=0 0:r7=0 1:r2=0":                   true,
		"0:r0=1":                                 false,
		"0:r0=0 1:r0=1 1:r1=0 1:r7=0 x=7":        true,
		"0:r0=0 1:r0=1 1:r1=0 1:r7=7 x=7":        false,
		"0:r0=0 0:r1=0 0:r2=0 0:r3=0 0:r4=0 0:r5=18": false,
	} {
		x := passing(t, asks)
		if got := cond.Holds(&x, s); got != want {
			t.Errorf("%q: %v", asks, got)
		}
	}
}

// P20.1: Project is the number of each atom, in order, and not what is asked for.
func TestProject(t *testing.T) {
	s := state(3, 4, 5, math.MaxUint64)
	for asks, want := range map[string][]uint64{
		"":                                     nil,
		"1:r0=9":                               {3},
		"1:r1=9":                               {4},
		"x=9":                                  {5},
		"y=9":                                  {math.MaxUint64},
		"1:r0=0 1:r1=0 x=0 y=0":                {3, 4, 5, math.MaxUint64},
		"1:r1=0 y=0":                           {4, math.MaxUint64},
		"0:r0=1 0:r1=1 1:r1=1 1:r2=1 y=0":      {0, 0, 4, 0, math.MaxUint64},
		"1:r0=3 1:r5=0":                        {3, 0},
		"0:r7=7 1:r0=1 1:r6=2 1:r7=3 x=4 y=18": {0, 3, 0, 0, 5, math.MaxUint64},
	} {
		x := passing(t, asks)
		got := cond.Project(&x, s)
		if !slices.Equal(got, want) {
			t.Errorf("%q: %v, want %v", asks, got, want)
		}
		clear(got)
		if !slices.Equal(cond.Project(&x, s), want) {
			t.Errorf("%q: the result is shared", asks)
		}
	}
}

// P20.1: the places of a state are those of the registers that are set, whatever the order in which they are.
func TestPlaces(t *testing.T) {
	x := parsed(t, "init a=1 b=2\nthread\nload r7 a\nli r3 1\nload r7 b\nthread\nthread\nsc r2 b 1\namo r0 a 1\nask 0:r3=11 0:r4=0 0:r7=12 1:r0=0 2:r0=13 2:r1=0 2:r2=14 a=15 b=16")
	s := state(11, 12, 13, 14, 15, 16)
	if got := cond.Project(&x, s); !slices.Equal(got, []uint64{11, 0, 12, 0, 13, 0, 14, 15, 16}) || !cond.Holds(&x, s) {
		t.Errorf("%v", got)
	}
}

// P20.1: Of counts the states in which the condition holds.
func TestOf(t *testing.T) {
	for _, c := range []struct {
		asks string
		set  outcome.Set
		want cond.Answer
	}{
		{"1:r0=1 1:r1=0", four(), cond.Answer{Kind: cond.Some, Yes: 1, N: 4}},
		{"1:r0=1", four(), cond.Answer{Kind: cond.Some, Yes: 2, N: 4}},
		{"1:r0=2", four(), cond.Answer{Kind: cond.Never, Yes: 0, N: 4}},
		{"x=1 y=1", four(), cond.Answer{Kind: cond.Always, Yes: 4, N: 4}},
		{"0:r0=0", four(), cond.Answer{Kind: cond.Always, Yes: 4, N: 4}},
		{"0:r0=1", four(), cond.Answer{Kind: cond.Never, Yes: 0, N: 4}},
		{"", four(), cond.Answer{Kind: cond.Always, Yes: 4, N: 4}},
		{"1:r1=0", four()[:3], cond.Answer{Kind: cond.Some, Yes: 2, N: 3}},
		{"1:r0=0", four()[:1], cond.Answer{Kind: cond.Always, Yes: 1, N: 1}},
		{"1:r0=1", four()[:1], cond.Answer{Kind: cond.Never, Yes: 0, N: 1}},
		{"1:r0=0", four()[:2], cond.Answer{Kind: cond.Always, Yes: 2, N: 2}},
		{"", nil, cond.Answer{}},
		{"x=1", nil, cond.Answer{}},
		{"", outcome.Set{}, cond.Answer{}},
	} {
		x := passing(t, c.asks)
		if got := cond.Of(&x, c.set); got != c.want {
			t.Errorf("%q of %v: %+v, want %+v", c.asks, c.set, got, c.want)
		}
	}
	if cond.Never != 0 || cond.Some != 1 || cond.Always != 2 {
		t.Error("the kinds")
	}
}

// P20.1: Witness is the first state in which the condition holds, or does not.
func TestWitness(t *testing.T) {
	set := four()
	for _, c := range []struct {
		asks    string
		set     outcome.Set
		yes, no int
	}{
		{"1:r0=1", set, 2, 0},
		{"1:r0=0", set, 0, 2},
		{"1:r1=1", set, 1, 0},
		{"1:r1=0", set, 0, 1},
		{"1:r0=1 1:r1=1", set, 3, 0},
		{"1:r0=1 1:r1=0", set, 2, 0},
		{"x=1", set, 0, -1},
		{"x=0", set, -1, 0},
		{"", set, 0, -1},
		{"", nil, -1, -1},
		{"x=1", outcome.Set{}, -1, -1},
		{"1:r0=0", set[:2], 0, -1},
	} {
		x := passing(t, c.asks)
		for holds, place := range map[bool]int{true: c.yes, false: c.no} {
			var want outcome.State
			if place >= 0 {
				want = c.set[place]
			}
			if got, ok := cond.Witness(&x, c.set, holds); got != want || ok != (place >= 0) {
				t.Errorf("%q of %v, %v: %v, %v", c.asks, c.set, holds, got, ok)
			}
		}
	}
}

// P20.1: Word, for what Of returns.
func TestWord(t *testing.T) {
	x := passing(t, "1:r0=1")
	for n, want := range []string{"never", "never", "never", "sometimes", "sometimes"} {
		if got := cond.Of(&x, four()[:n]).Word(); got != want {
			t.Errorf("%d: %q, want %q", n, got, want)
		}
	}
	if got := cond.Of(&x, four()[2:]).Word(); got != "always" {
		t.Errorf("%q", got)
	}
	for _, n := range []int{math.MinInt, -1, 3, math.MaxInt} {
		if got := (cond.Answer{Kind: n}).Word(); got != "" {
			t.Errorf("%d: %q", n, got)
		}
	}
}

// P20.1: the example of the chapter.
func TestExample(t *testing.T) {
	x := passing(t, "1:r0=1 1:r1=0")
	if a := cond.Of(&x, rvwmo.States(&x)); a != (cond.Answer{Kind: cond.Some, Yes: 1, N: 4}) || a.Word() != "sometimes" {
		t.Errorf("%+v", a)
	}
	buffers, _ := tso.States(&x)
	if a := cond.Of(&x, buffers); a != (cond.Answer{Kind: cond.Never, N: 3}) || a.Word() != "never" {
		t.Errorf("%+v", a)
	}
}

// random is a random valid test of instructions that set some registers, and its random atoms.
func random(r *rand.Rand) litmus.Test {
	var x litmus.Test
	for i := range r.Intn(9) {
		x.Locs = append(x.Locs, litmus.Init{Name: string(rune('a' + i))})
	}
	for thread := range 1 + r.Intn(4) {
		x.Threads = append(x.Threads, nil)
		for range r.Intn(9) {
			x.Threads[thread] = append(x.Threads[thread], litmus.Instr{Op: litmus.Li, Rd: r.Intn(8)})
		}
		for at := range 8 {
			if r.Intn(8) == 0 {
				x.Asks = append(x.Asks, litmus.Atom{Thread: thread, At: at, V: uint64(r.Intn(2))})
			}
		}
	}
	for loc := range x.Locs {
		if r.Intn(6) == 0 {
			x.Asks = append(x.Asks, litmus.Atom{Thread: -1, At: loc, V: uint64(r.Intn(2))})
		}
	}
	return x
}

// randomSet are some random states of a test, mostly of few unlike numbers.
func randomSet(r *rand.Rand, x *litmus.Test) outcome.Set {
	seen := map[outcome.State]bool{}
	for range r.Intn(6) {
		regs := make([][api.MaxRegs]uint64, len(x.Threads))
		var locs [api.MaxLocs]uint64
		for i := range regs {
			for at := range regs[i] {
				regs[i][at] = uint64(r.Intn(2))
			}
		}
		for at := range locs {
			locs[at] = uint64(r.Intn(2))
		}
		seen[outcome.Made(x, regs, locs)] = true
	}
	return outcome.Of(seen)
}

// told are the numbers of a test's atoms, by the text of a state.
func told(x *litmus.Test, s outcome.State) []uint64 {
	var list []uint64
	words := strings.Fields(outcome.Text(x, s))
	for _, a := range x.Asks {
		name := fmt.Sprintf("%d:r%d=", a.Thread, a.At)
		if a.Thread == -1 {
			name = x.Locs[a.At].Name + "="
		}
		var v uint64
		for _, word := range words {
			if after, ok := strings.CutPrefix(word, name); ok {
				v, _ = strconv.ParseUint(after, 10, 64)
			}
		}
		list = append(list, v)
	}
	return list
}

// P20.1: all functions on random tests and sets, against the texts of the states; they change nothing, and return the same again.
func TestRandom(t *testing.T) {
	r := rand.New(rand.NewSource(1))
	kinds := [3]int{}
	for range 10000 {
		x := random(r)
		if e := x.Check(); e != api.OK {
			t.Fatalf("%+v: %d", x, e)
		}
		set := randomSet(r, &x)
		before := fmt.Sprint(x, set)
		want := cond.Answer{N: len(set)}
		first := map[bool]outcome.State{}
		for _, s := range slices.Backward(set) {
			numbers := told(&x, s)
			holds := true
			for i, a := range x.Asks {
				holds = holds && numbers[i] == a.V
			}
			first[holds] = s
			if holds {
				want.Yes++
			}
			if cond.Holds(&x, s) != holds || !slices.Equal(cond.Project(&x, s), numbers) {
				t.Fatalf("%+v, %v: %v, %v", x, s, cond.Holds(&x, s), cond.Project(&x, s))
			}
		}
		switch {
		case want.Yes > 0 && want.Yes < want.N:
			want.Kind = cond.Some
		case want.Yes > 0:
			want.Kind = cond.Always
		}
		kinds[want.Kind]++
		for range 2 {
			if got := cond.Of(&x, set); got != want {
				t.Fatalf("%+v, %v: %+v, want %+v", x, set, got, want)
			}
			for _, holds := range []bool{true, false} {
				state, is := first[holds]
				if got, ok := cond.Witness(&x, set, holds); got != state || ok != is {
					t.Fatalf("%+v, %v, %v: %v, %v", x, set, holds, got, ok)
				}
			}
		}
		if fmt.Sprint(x, set) != before {
			t.Fatalf("%s is changed", before)
		}
	}
	if slices.Min(kinds[:]) < 100 {
		t.Errorf("answers of each kind: %v", kinds)
	}
}

// P20.2: what holds always or never does so too for every part of a set (that is not empty, for always).
func TestParts(t *testing.T) {
	r := rand.New(rand.NewSource(2))
	for range 3000 {
		x := random(r)
		set := randomSet(r, &x)
		whole := cond.Of(&x, set)
		for chosen := range 1 << len(set) {
			var part outcome.Set
			for i, s := range set {
				if chosen>>i&1 == 1 {
					part = append(part, s)
				}
			}
			got := cond.Of(&x, part)
			if got.N != len(part) || got.Yes > whole.Yes {
				t.Fatalf("%+v, %v: %+v of %+v", x, part, got, whole)
			}
			if len(part) > 0 && whole.Kind == cond.Always && got.Kind != cond.Always || whole.Kind == cond.Never && got.Kind != cond.Never {
				t.Fatalf("%+v, %v: %+v of %+v", x, part, got, whole)
			}
		}
	}
}

// K7: tests and states that are none do no harm.
func TestInvalid(t *testing.T) {
	bad := []int{math.MinInt, -2, -1, 0, 7, 8, 40, math.MaxInt}
	for _, n := range bad {
		for _, m := range bad {
			x := litmus.Test{
				Threads: [][]litmus.Instr{{{Op: litmus.Li, Rd: n}}, {{Op: n, Rd: m}}},
				Locs:    make([]litmus.Init, 60),
				Asks:    []litmus.Atom{{Thread: n, At: m}, {Thread: -1, At: m}, {Thread: -1, At: 59}},
			}
			s := outcome.State{N: n}
			cond.Holds(&x, s)
			cond.Witness(&x, outcome.Set{s, s}, false)
			if a := cond.Of(&x, outcome.Set{s}); a.N != 1 || len(cond.Project(&x, s)) != 3 {
				t.Errorf("%d, %d: %+v", n, m, a)
			}
		}
	}
	x := litmus.Test{}
	if a := cond.Of(&x, outcome.Set{{}}); a != (cond.Answer{Kind: cond.Always, Yes: 1, N: 1}) || !cond.Holds(&x, outcome.State{}) {
		t.Errorf("a test of nothing: %+v", a)
	}
}
