package outcome_test

import (
	"maps"
	"math"
	"math/rand"
	"slices"
	"sort"
	"testing"

	"ordeal/api"
	"ordeal/litmus"
	"ordeal/outcome"
)

// values are registers of a thread, or locations.
type values = [8]uint64

func num(n uint64) litmus.Arg { return litmus.Arg{N: n} }

// passing is the message-passing test.
func passing() litmus.Test {
	return litmus.Test{
		Locs: []litmus.Init{{Name: "x"}, {Name: "y"}},
		Threads: [][]litmus.Instr{
			{{Op: litmus.Store, A: num(1)}, {Op: litmus.Store, Loc: 1, A: num(1)}},
			{{Op: litmus.Load, Loc: 1}, {Op: litmus.Load, Rd: 1}},
		},
	}
}

// mixed has threads that set registers in no order, more than once, or not at all.
func mixed() litmus.Test {
	return litmus.Test{
		Locs: []litmus.Init{{Name: "a", V: 7}, {Name: "lock", V: 8}, {Name: "z", V: 9}},
		Threads: [][]litmus.Instr{
			{{Op: litmus.Li, Rd: 7}, {Op: litmus.Load, Rd: 3}, {Op: litmus.Add, Rd: 7}, {Op: litmus.Sc, Rd: 0}},
			nil,
			{{Op: litmus.Store}, {Op: litmus.Fence, Pred: 1, Succ: 1}, {Op: litmus.Beq}, {Op: litmus.Bne}},
			{{Op: litmus.Amo, Rd: 5}, {Op: litmus.Swap, Rd: 2}},
		},
	}
}

// full has as many numbers in its states as there may be.
func full() litmus.Test {
	var x litmus.Test
	for thread := range 4 {
		x.Threads = append(x.Threads, nil)
		for at := range 8 {
			x.Threads[thread] = append(x.Threads[thread], litmus.Instr{Op: litmus.Li, Rd: 7 - at})
		}
	}
	for _, c := range "abcdefgh" {
		x.Locs = append(x.Locs, litmus.Init{Name: string(c)})
	}
	return x
}

// bare has no number in its state.
func bare() litmus.Test {
	return litmus.Test{Threads: make([][]litmus.Instr, 2)}
}

// distinct are registers of four threads and locations, all of them unlike: 100 and more in thread 1, and so on.
func distinct() ([][api.MaxRegs]uint64, [api.MaxLocs]uint64) {
	var regs [][api.MaxRegs]uint64
	var locs [api.MaxLocs]uint64
	for thread := range 4 {
		var list [api.MaxRegs]uint64
		for at := range list {
			list[at] = uint64(100*thread + at)
		}
		regs = append(regs, list)
	}
	for at := range locs {
		locs[at] = uint64(900 + at)
	}
	return regs, locs
}

// state has these numbers.
func state(list ...uint64) outcome.State {
	s := outcome.State{N: len(list)}
	copy(s.V[:], list)
	return s
}

// P12.1: there is room for the numbers of any valid test.
func TestMaxSlots(t *testing.T) {
	x := full()
	if e := x.Check(); e != api.OK || outcome.MaxSlots != 40 || len(outcome.Slots(&x)) != 40 {
		t.Errorf("%d: %d of %d", e, len(outcome.Slots(&x)), outcome.MaxSlots)
	}
}

// P12.1: Slots are the registers that threads set, by thread and register, and then the locations.
func TestSlots(t *testing.T) {
	check := func(x litmus.Test, want ...outcome.Slot) {
		t.Helper()
		if e := x.Check(); e != api.OK {
			t.Fatalf("Check: %d", e)
		}
		got := outcome.Slots(&x)
		if !slices.Equal(got, want) {
			t.Errorf("%v, want %v", got, want)
		}
		for i := range got {
			got[i].At = 99
		}
		if !slices.Equal(outcome.Slots(&x), want) {
			t.Error("the result is shared")
		}
	}
	check(passing(), outcome.Slot{1, 0}, outcome.Slot{1, 1}, outcome.Slot{-1, 0}, outcome.Slot{-1, 1})
	check(mixed(), outcome.Slot{0, 0}, outcome.Slot{0, 3}, outcome.Slot{0, 7}, outcome.Slot{3, 2}, outcome.Slot{3, 5}, outcome.Slot{-1, 0}, outcome.Slot{-1, 1}, outcome.Slot{-1, 2})
	check(bare())
	check(litmus.Test{Threads: [][]litmus.Instr{{{Op: litmus.Li, Rd: 4}}}}, outcome.Slot{0, 4})
	check(litmus.Test{Threads: make([][]litmus.Instr, 1), Locs: []litmus.Init{{Name: "x"}}}, outcome.Slot{-1, 0})
}

// P12.1: Made takes the numbers of the slots, and no others; what is beyond N is 0.
func TestMade(t *testing.T) {
	regs, locs := distinct()
	check := func(x litmus.Test, want outcome.State) {
		t.Helper()
		if got := outcome.Made(&x, regs, locs); got != want {
			t.Errorf("%v, want %v", got, want)
		}
		if again, _ := distinct(); !slices.Equal(regs, again) {
			t.Error("the registers are changed")
		}
	}
	check(passing(), state(100, 101, 900, 901))
	check(mixed(), state(0, 3, 7, 302, 305, 900, 901, 902))
	check(bare(), state())
	check(full(), state(0, 1, 2, 3, 4, 5, 6, 7, 100, 101, 102, 103, 104, 105, 106, 107, 200, 201, 202, 203, 204, 205, 206, 207, 300, 301, 302, 303, 304, 305, 306, 307, 900, 901, 902, 903, 904, 905, 906, 907))
	x := passing()
	want := state(math.MaxUint64, 0, 1<<63, 0)
	if got := outcome.Made(&x, []values{{5}, {math.MaxUint64}}, values{1 << 63}); got != want {
		t.Errorf("%v, want %v", got, want)
	}
}

// P12.1: Text tells the numbers, each with its register or location; the example of the chapter.
func TestText(t *testing.T) {
	check := func(x litmus.Test, s outcome.State, want string) {
		t.Helper()
		if got := outcome.Text(&x, s); got != want {
			t.Errorf("%q, want %q", got, want)
		}
	}
	check(passing(), state(1, 0, 1, 1), "1:r0=1 1:r1=0 x=1 y=1")
	check(passing(), state(1<<64-1, 1<<63, 0, 10), "1:r0=18446744073709551615 1:r1=9223372036854775808 x=0 y=10")
	check(mixed(), state(1, 2, 3, 4, 5, 6, 7, 8), "0:r0=1 0:r3=2 0:r7=3 3:r2=4 3:r5=5 a=6 lock=7 z=8")
	check(bare(), state(), "")
	check(litmus.Test{Threads: make([][]litmus.Instr, 1), Locs: []litmus.Init{{Name: "x"}}}, state(3), "x=3")
	check(litmus.Test{Threads: [][]litmus.Instr{nil, {{Op: litmus.Li, Rd: 4}}}}, state(3), "1:r4=3")
	x := full()
	regs, locs := distinct()
	check(x, outcome.Made(&x, regs, locs), "0:r0=0 0:r1=1 0:r2=2 0:r3=3 0:r4=4 0:r5=5 0:r6=6 0:r7=7 1:r0=100 1:r1=101 1:r2=102 1:r3=103 1:r4=104 1:r5=105 1:r6=106 1:r7=107 2:r0=200 2:r1=201 2:r2=202 2:r3=203 2:r4=204 2:r5=205 2:r6=206 2:r7=207 3:r0=300 3:r1=301 3:r2=302 3:r3=303 3:r4=304 3:r5=305 3:r6=306 3:r7=307 a=900 b=901 c=902 d=903 e=904 f=905 g=906 h=907")
}

// ascending are states in ascending order.
func ascending() outcome.Set {
	last, first := outcome.State{N: 40}, outcome.State{N: 40}
	first.V[0], last.V[39] = 1, 1
	return outcome.Set{
		state(), state(0), state(1), state(2), state(1 << 63), state(1<<64 - 1),
		state(0, 0), state(0, 1), state(0, 1<<64-1), state(1, 0), state(1, 1), state(10, 0), state(1<<63, 0), state(1<<64-1, 1<<64-1),
		state(0, 0, 0), state(0, 0, 5), state(0, 1, 4), state(0, 1, 5), {N: 40}, last, first,
	}
}

// P12.1: Compare compares N, and then the first number that differs.
func TestCompare(t *testing.T) {
	list := ascending()
	for i, a := range list {
		for k, b := range list {
			want := 0
			if i < k {
				want = -1
			}
			if i > k {
				want = 1
			}
			if got := outcome.Compare(a, b); got != want {
				t.Errorf("%v and %v: %d", a, b, got)
			}
		}
	}
	for i := range 40 {
		a, b := outcome.State{N: 40}, outcome.State{N: 40}
		a.V[i], b.V[i] = 6, 5
		for k := i + 1; k < 40; k++ {
			b.V[k] = 9
		}
		if outcome.Compare(a, b) != 1 || outcome.Compare(b, a) != -1 || outcome.Compare(a, a) != 0 {
			t.Errorf("number %d", i)
		}
	}
}

// P12.1: Of returns all states of the map in ascending order, whatever the order in which a map is gone through.
func TestOf(t *testing.T) {
	want := ascending()
	seen := map[outcome.State]bool{}
	for _, x := range want {
		seen[x] = true
	}
	before := maps.Clone(seen)
	for range 20 {
		if got := outcome.Of(seen); !slices.Equal(got, want) {
			t.Fatalf("%v", got)
		}
	}
	if !maps.Equal(seen, before) {
		t.Error("the map is changed")
	}
	if got := outcome.Of(map[outcome.State]bool{state(4): true}); !slices.Equal(got, outcome.Set{state(4)}) {
		t.Errorf("one state: %v", got)
	}
	if len(outcome.Of(nil)) != 0 || len(outcome.Of(map[outcome.State]bool{})) != 0 {
		t.Error("no states")
	}
	// The states of a map are its keys.
	if got := outcome.Of(map[outcome.State]bool{state(2): false, state(1): true}); !slices.Equal(got, outcome.Set{state(1), state(2)}) {
		t.Errorf("a state with false: %v", got)
	}
}

// P12.1: Has looks for one state among any number of them.
func TestHas(t *testing.T) {
	for n := range 12 {
		var s outcome.Set
		for v := range n {
			s = append(s, state(uint64(2*v+1), 0))
		}
		for v := range 2*n + 3 {
			want := v%2 == 1 && v < 2*n
			if s.Has(state(uint64(v), 0)) != want || s.Has(state(uint64(v), 1)) || s.Has(state(uint64(v))) || s.Has(state(uint64(v), 0, 0)) {
				t.Errorf("%d of %d", v, n)
			}
		}
	}
	for _, x := range ascending() {
		if !ascending().Has(x) || (outcome.Set{}).Has(x) || outcome.Set(nil).Has(x) {
			t.Errorf("%v", x)
		}
	}
}

// P12.1: Within and With of small sets.
func TestWithinAndWith(t *testing.T) {
	a, b, c := state(1), state(2), state(3)
	for _, x := range []struct {
		s, o   outcome.Set
		within bool
		with   outcome.Set
	}{
		{nil, nil, true, nil},
		{outcome.Set{}, nil, true, nil},
		{nil, outcome.Set{a}, true, outcome.Set{a}},
		{outcome.Set{a}, nil, false, outcome.Set{a}},
		{outcome.Set{a}, outcome.Set{a}, true, outcome.Set{a}},
		{outcome.Set{a}, outcome.Set{b}, false, outcome.Set{a, b}},
		{outcome.Set{b}, outcome.Set{a}, false, outcome.Set{a, b}},
		{outcome.Set{a, c}, outcome.Set{a, b, c}, true, outcome.Set{a, b, c}},
		{outcome.Set{a, b, c}, outcome.Set{a, c}, false, outcome.Set{a, b, c}},
		{outcome.Set{a, c}, outcome.Set{b}, false, outcome.Set{a, b, c}},
		{outcome.Set{a, b}, outcome.Set{b, c}, false, outcome.Set{a, b, c}},
		{outcome.Set{b, c}, outcome.Set{a, b}, false, outcome.Set{a, b, c}},
	} {
		if x.s.Within(x.o) != x.within {
			t.Errorf("%v within %v: %v", x.s, x.o, !x.within)
		}
		if got := x.s.With(x.o); !slices.Equal(got, x.with) {
			t.Errorf("%v with %v: %v", x.s, x.o, got)
		}
	}
}

// P12.1 and K3: With changes neither set nor its spare capacity, and its result is new memory.
func TestWithSharesNothing(t *testing.T) {
	a, b, c, d := state(1), state(2), state(3), state(4)
	store, other := outcome.Set{a, c, d, d}, outcome.Set{b, c, d, d}
	for _, n := range []int{0, 1, 2} {
		for _, m := range []int{0, 1, 2} {
			u := store[:n].With(other[:m])
			for i := range u {
				u[i] = state(99)
			}
			u = append(u, state(98), state(97))
			if !slices.Equal(store, outcome.Set{a, c, d, d}) || !slices.Equal(other, outcome.Set{b, c, d, d}) {
				t.Fatalf("%d and %d: %v, %v", n, m, store, other)
			}
		}
	}
}

// P12.1: Good is for sets of states with so many numbers.
func TestGood(t *testing.T) {
	for n := -2; n < 44; n++ {
		if !(outcome.Set{}).Good(n) || !outcome.Set(nil).Good(n) {
			t.Errorf("the empty set, %d", n)
		}
		low, high := outcome.State{N: n}, outcome.State{N: n}
		low.V[0], high.V[0] = 1, 2
		want := n >= 1 && n <= 40
		if (outcome.Set{low}).Good(n) != want || (outcome.Set{low, high}).Good(n) != want || (outcome.Set{low}).Good(n+1) || (outcome.Set{low}).Good(n-1) {
			t.Errorf("states of %d numbers", n)
		}
		if (outcome.Set{high, low}).Good(n) || (outcome.Set{low, low}).Good(n) || (outcome.Set{low, high, low}).Good(n) {
			t.Errorf("not ascending, %d", n)
		}
		if got := (outcome.Set{{N: n}}).Good(n); got != (n >= 0 && n <= 40) {
			t.Errorf("zeros, %d: %v", n, got)
		}
	}
	if (outcome.Set{state(1), state(1, 1)}).Good(1) || (outcome.Set{state(1), state(1, 1)}).Good(2) {
		t.Error("states of unlike lengths")
	}
	for at := range 40 {
		x := outcome.State{N: 20}
		x.V[at] = 1
		if (outcome.Set{{N: 20}, x}).Good(20) != (at < 20) || (outcome.Set{x}).Good(20) != (at < 20) {
			t.Errorf("number %d", at)
		}
	}
	if (outcome.Set{{N: math.MinInt}}).Good(math.MinInt) || (outcome.Set{{N: math.MaxInt}}).Good(math.MaxInt) {
		t.Error("no numbers of states")
	}
}

// randomSet is some of the states of two numbers up to 3, as a map too.
func randomSet(r *rand.Rand) (outcome.Set, map[outcome.State]bool) {
	var s outcome.Set
	seen := map[outcome.State]bool{}
	for range r.Intn(10) {
		x := state(uint64(r.Intn(4)), uint64(r.Intn(4)))
		if !seen[x] {
			s = append(s, x)
		}
		seen[x] = true
	}
	sort.Slice(s, func(i, k int) bool { return s[i].V[0]*4+s[i].V[1] < s[k].V[0]*4+s[k].V[1] })
	return s, seen
}

// P12.1 and P12.2: With, Within and Has are those of sets as maps, and so consistent with each other.
func TestSetsAreConsistent(t *testing.T) {
	r := rand.New(rand.NewSource(1))
	for range 20000 {
		a, inA := randomSet(r)
		b, inB := randomSet(r)
		u := a.With(b)
		within, size := true, 0
		for v := range uint64(16) {
			x := state(v/4, v%4)
			if a.Has(x) != inA[x] || u.Has(x) != (inA[x] || inB[x]) {
				t.Fatalf("%v with %v: %v: Has(%v)", a, b, u, x)
			}
			within = within && (inB[x] || !inA[x])
			if u.Has(x) {
				size++
			}
		}
		if !slices.Equal(outcome.Of(inA), a) || !a.Good(2) || !u.Good(2) || len(u) != size {
			t.Fatalf("%v with %v: %v", a, b, u)
		}
		if a.Within(b) != within || a.Within(b) != slices.Equal(u, b) {
			t.Fatalf("%v within %v: %v", a, b, !within)
		}
		if !a.Within(u) || !b.Within(u) || !slices.Equal(u, b.With(a)) || !slices.Equal(u, u.With(a)) {
			t.Fatalf("%v with %v: %v", a, b, u)
		}
	}
}

// K7: tests, states and registers that do not belong together do no harm.
func TestInvalid(t *testing.T) {
	x := litmus.Test{Locs: make([]litmus.Init, 50), Threads: make([][]litmus.Instr, 9)}
	for i := range x.Threads {
		for _, n := range []int{math.MinInt, -1, 0, 8, math.MaxInt} {
			x.Threads[i] = append(x.Threads[i], litmus.Instr{Op: litmus.Li, Rd: n, Loc: n})
		}
	}
	valid := passing()
	for _, test := range []litmus.Test{x, valid, {Locs: x.Locs}, {}} {
		for _, n := range []int{math.MinInt, -1, 0, 3, 40, 41, math.MaxInt} {
			outcome.Text(&test, outcome.State{N: n})
		}
		for n := range 3 {
			s := outcome.Made(&test, make([]values, n), values{})
			if s != (outcome.State{N: min(len(outcome.Slots(&test)), 40)}) {
				t.Errorf("%d lists: %v", n, s)
			}
		}
	}
}
