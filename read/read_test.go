package read_test

import (
	"math"
	"math/rand"
	"slices"
	"strings"
	"testing"

	"ordeal/api"
	"ordeal/litmus"
	"ordeal/read"
)

func num(n uint64) litmus.Arg { return litmus.Arg{N: n} }

func reg(n uint64) litmus.Arg { return litmus.Arg{Reg: true, N: n} }

// same compares all parts of two tests.
func same(x, y litmus.Test) bool {
	return slices.Equal(x.Locs, y.Locs) && slices.Equal(x.Asks, y.Asks) &&
		slices.EqualFunc(x.Threads, y.Threads, func(a, b []litmus.Instr) bool { return slices.Equal(a, b) })
}

// check checks that a text is a valid test.
func check(t *testing.T, s string, want litmus.Test) {
	t.Helper()
	got, n, e := read.Parse(s)
	if e != api.OK || n != 0 || !same(got, want) {
		t.Errorf("Parse(%q): %+v, %d, %d, want %+v", s, got, n, e, want)
	}
	if e := got.Check(); e != api.OK {
		t.Errorf("Parse(%q): Check returns %d", s, e)
	}
}

// checkError checks that a text is rejected, without a test.
func checkError(t *testing.T, s string, wantLine int, want api.Errno) {
	t.Helper()
	if got, n, e := read.Parse(s); !same(got, litmus.Test{}) || n != wantLine || e != want {
		t.Errorf("Parse(%q): %+v, %d, %d, want %d at %d", s, got, n, e, want, wantLine)
	}
}

// fault is a line, and its error.
type fault struct {
	line string
	want api.Errno
}

// checkFaults checks that lines are rejected behind some others, whatever follows them.
func checkFaults(t *testing.T, before string, list []fault) {
	t.Helper()
	n := strings.Count(before, "\n") + 1
	for _, f := range list {
		for _, after := range []string{"", "\n", " # note\r\n", "\nfly", "\nthread\nli r9 1"} {
			checkError(t, before+f.line+after, n, f.want)
		}
	}
}

// P10.1 and P10.2: the examples of the chapter.
func TestExamples(t *testing.T) {
	check(t, "init x=1 \n thread \n store y 1 rel \n thread \n load r0 y acq \n ask 1:r0=1 x=1", litmus.Test{
		Locs:    []litmus.Init{{Name: "x", V: 1}, {Name: "y"}},
		Threads: [][]litmus.Instr{{{Op: litmus.Store, Loc: 1, A: num(1), Rel: true}}, {{Op: litmus.Load, Loc: 1, Acq: true}}},
		Asks:    []litmus.Atom{{Thread: 1, V: 1}, {Thread: -1, V: 1}},
	})
	checkFaults(t, "thread\n", []fault{{"load r8 x", api.ErrName}, {"load r1 x rel", api.ErrText}})
}

// one is an instruction as it is written, and what it is in a test whose only location is x.
type one struct {
	line string
	want litmus.Instr
}

// instructions are all Ops, with every choice of what may follow them.
func instructions() []one {
	list := []one{
		{"li r7 0xffffffffffffffff", litmus.Instr{Op: litmus.Li, Rd: 7, A: num(math.MaxUint64)}},
		{"li r0 0", litmus.Instr{Op: litmus.Li}},
		{"fence r r", litmus.Instr{Op: litmus.Fence, Pred: 1, Succ: 1}},
		{"fence r w", litmus.Instr{Op: litmus.Fence, Pred: 1, Succ: 2}},
		{"fence w rw", litmus.Instr{Op: litmus.Fence, Pred: 2, Succ: 3}},
		{"fence rw r", litmus.Instr{Op: litmus.Fence, Pred: 3, Succ: 1}},
		{"beq r7 8 0", litmus.Instr{Op: litmus.Beq, A: reg(7), B: num(8)}},
		{"bne 9 r0 2", litmus.Instr{Op: litmus.Bne, A: num(9), B: reg(0), Skip: 2}},
		{"load r7 x", litmus.Instr{Op: litmus.Load, Rd: 7}},
		{"load r7 x acq", litmus.Instr{Op: litmus.Load, Rd: 7, Acq: true}},
		{"load r7 x dep r0", litmus.Instr{Op: litmus.Load, Rd: 7, Dep: 1}},
		{"load r7 x acq dep r7", litmus.Instr{Op: litmus.Load, Rd: 7, Acq: true, Dep: 8}},
		{"lr r1 x", litmus.Instr{Op: litmus.Lr, Rd: 1}},
		{"lr r1 x acq dep r2", litmus.Instr{Op: litmus.Lr, Rd: 1, Acq: true, Dep: 3}},
		{"store x 1", litmus.Instr{Op: litmus.Store, A: num(1)}},
		{"store x r1 rel", litmus.Instr{Op: litmus.Store, A: reg(1), Rel: true}},
		{"store x r1 dep r5", litmus.Instr{Op: litmus.Store, A: reg(1), Dep: 6}},
		{"store x r1 rel dep r5", litmus.Instr{Op: litmus.Store, A: reg(1), Rel: true, Dep: 6}},
		{"sc r1 x r2", litmus.Instr{Op: litmus.Sc, Rd: 1, A: reg(2)}},
		{"sc r1 x 2 rel", litmus.Instr{Op: litmus.Sc, Rd: 1, A: num(2), Rel: true}},
		{"sc r1 x 2 rel dep r3", litmus.Instr{Op: litmus.Sc, Rd: 1, A: num(2), Rel: true, Dep: 4}},
	}
	for i, mnemonic := range []string{"add", "sub", "xor", "and", "or", "shl", "shr"} {
		list = append(list, one{mnemonic + " r1 r2 3", litmus.Instr{Op: litmus.Add + i, Rd: 1, A: reg(2), B: num(3)}})
		list = append(list, one{mnemonic + " r7 0x40 r0", litmus.Instr{Op: litmus.Add + i, Rd: 7, A: num(64), B: reg(0)}})
	}
	for mnemonic, op := range map[string]int{"swap": litmus.Swap, "amo": litmus.Amo} {
		for n := range 8 {
			x := litmus.Instr{Op: op, Rd: 1, A: reg(2), Acq: n&1 != 0, Rel: n&2 != 0}
			line := mnemonic + " r1 x r2"
			if x.Acq {
				line += " acq"
			}
			if x.Rel {
				line += " rel"
			}
			if n&4 != 0 {
				line += " dep r3"
				x.Dep = 4
			}
			list = append(list, one{line, x})
		}
	}
	return list
}

// P10.1: every instruction, with all that may follow it.
func TestInstructions(t *testing.T) {
	li := litmus.Instr{Op: litmus.Li, Rd: 1, A: num(1)}
	for _, c := range instructions() {
		check(t, "init x=5\nthread\n"+c.line+"\nli r1 1\nli r1 1", litmus.Test{
			Locs:    []litmus.Init{{Name: "x", V: 5}},
			Threads: [][]litmus.Instr{{c.want, li, li}},
		})
	}
}

// P10.1: a token that is missing is ErrText, at the end of an instruction too; so is one that is in excess.
func TestMissingAndExcess(t *testing.T) {
	for _, c := range instructions() {
		words := strings.Fields(c.line)
		isShort := slices.Contains(strings.Fields("li load lr store fence"), words[0])
		for n := 1; n < len(words); n++ {
			if n < 3 || n < 4 && !isShort || words[n-1] == "dep" {
				checkFaults(t, "thread\n", []fault{{strings.Join(words[:n], " "), api.ErrText}})
			}
		}
		for _, more := range []string{"1", "r1", "r9", "x", "=", ":", "fly", "dep"} {
			checkFaults(t, "thread\n", []fault{{c.line + " " + more, api.ErrText}})
		}
	}
}

// P10.1: acq, rel and dep may follow instructions that read, that write, and those that do either, each once and in this order.
func TestSuffixes(t *testing.T) {
	suffixes := []string{" acq", " rel", " dep r1"}
	permitted := map[string][]int{
		"load r1 x": {0, 2}, "lr r1 x": {0, 2}, "store x 1": {1, 2}, "sc r1 x 1": {1, 2}, "swap r1 x 1": {0, 1, 2}, "amo r1 x 1": {0, 1, 2},
		"li r1 1": nil, "add r1 1 1": nil, "shr r1 r2 r3": nil, "fence r w": nil, "beq 1 1 0": nil, "bne 1 1 0": nil,
	}
	var follow func(line string, last, left int, list []int, isValid bool)
	follow = func(line string, last, left int, list []int, isValid bool) {
		if _, _, e := read.Parse("thread\n" + line); (e == api.OK) != isValid {
			t.Errorf("Parse of %q: %d", line, e)
		}
		if !isValid {
			checkFaults(t, "thread\n", []fault{{line, api.ErrText}})
		}
		for i, suffix := range suffixes {
			if left > 0 {
				follow(line+suffix, i, left-1, list, isValid && i > last && slices.Contains(list, i))
			}
		}
	}
	for line, list := range permitted {
		follow(line, -1, 3, list, true)
	}
}

// P10.1: what may stand where a register, an arg, a location, a number or a side is required.
func TestOperands(t *testing.T) {
	text, name := api.ErrText, api.ErrName
	lines := map[string]map[string]api.Errno{
		"register": {"r8": name, "r9": name, "r10": text, "r": text, "ra": text, "r00": text, "x": text, "q1": text, "0": text, "7": text, "=": text, ":": text, "acq": text},
		"arg":      {"r8": name, "r9": name, "r10": text, "r": text, "ra": text, "x": text, "rw": text, "=": text, ":": text, "rel": text},
		"location": {"r0": name, "r7": name, "r8": name, "r9": name, "abcdefghijklmnopq": name, "0": text, "1": text, "=": text, ":": text},
		"number":   {"r0": text, "r8": text, "x": text, "abcdefghijklmnopq": text, "=": text, ":": text},
		"side":     {"wr": text, "r0": text, "r8": text, "rr": text, "x": text, "q": text, "rwx": text, "0": text, "1": text, "3": text, "=": text, ":": text},
	}
	places := map[string][]string{
		"register": {"li @ 1", "add @ 1 1", "shr @ r1 r1", "load @ x", "lr @ x acq", "swap @ x 1", "amo @ x 1", "sc @ x 1", "load r1 x dep @", "store x 1 rel dep @", "amo r1 x 1 acq rel dep @", "ask 0:@=1", "ask x=1 0:@=1"},
		"arg":      {"add r1 @ 1", "sub r1 1 @", "shl r1 r1 @", "store x @", "swap r1 x @", "amo r1 x @ acq", "sc r1 x @", "beq @ 1 0", "bne 1 @ 0"},
		"location": {"load r1 @", "lr r1 @ acq", "store @ 1", "swap r1 @ 1", "amo r1 @ 1", "sc r1 @ 1"},
		"number":   {"li r1 @", "beq 1 1 @", "bne 1 1 @", "ask x=@", "ask 0:r1=@", "ask x=1 y=@"},
		"side":     {"fence @ r", "fence r @", "fence w @"},
	}
	for kind, list := range places {
		for _, place := range list {
			for token, want := range lines[kind] {
				checkFaults(t, "thread\n", []fault{{strings.Replace(place, "@", token, 1), want}})
			}
		}
	}
	for token, want := range lines["location"] {
		checkFaults(t, "", []fault{{"init " + token + "=1", want}, {"init x=1 " + token + "=1", want}})
	}
	for token, want := range lines["number"] {
		checkFaults(t, "", []fault{{"init x=" + token, want}, {"init x=1 y=" + token, want}})
	}
}

// P10.1: within a line the leftmost error counts.
func TestLeftmost(t *testing.T) {
	checkFaults(t, "thread\n", []fault{
		{"add r8 x 1", api.ErrName},
		{"add x r8 1", api.ErrText},
		{"add r1 r8 x", api.ErrName},
		{"add r1 x r8", api.ErrText},
		{"add r8", api.ErrName},
		{"load r8 r1", api.ErrName},
		{"load 1 r1", api.ErrText},
		{"load r1 r1 rel", api.ErrName},
		{"store r1 x", api.ErrName},
		{"store x x r8", api.ErrText},
		{"store x 1 dep r8 1", api.ErrName},
		{"load r1 x rel dep r8", api.ErrText},
		{"li r9 r9 r9", api.ErrName},
		{"beq r8 1", api.ErrName},
		{"beq 1 r8 x", api.ErrName},
		{"fence q r8", api.ErrText},
		{"ask r1", api.ErrName},
		{"ask x", api.ErrText},
		{"ask x 1", api.ErrText},
		{"ask 0:r8", api.ErrName},
		{"ask 0:r1:r8", api.ErrText},
		{"ask x=1 x=y", api.ErrText},
		{"ask x=1 x", api.ErrText},
		{"ask x=1 x=2 r1=1", api.ErrTwice},
		{"ask x=1 r1=1 x=2", api.ErrName},
	})
	checkFaults(t, "", []fault{
		{"init r1", api.ErrName},
		{"init x=1 r1=1 x=1", api.ErrName},
		{"init x=1 x=1 r1=1", api.ErrTwice},
		{"init x=1 x=x", api.ErrText},
		{"init x=1 x", api.ErrText},
	})
}

// P10.1: the first word of a line says what it is; without one the line is ErrText, wherever it stands.
func TestFirstWords(t *testing.T) {
	for _, before := range []string{"", "init x=1\n", "thread\n", "thread\nli r1 1\n", "thread\nask\n", "thread\nask x=1\n"} {
		checkFaults(t, before, []fault{{"fly", 10}, {"fly r1 r8", 10}, {"1", 10}, {"0x1", 10}, {"=", 10}, {":", 10}, {"x=1", 10}, {"0:r1=1", 10}, {"r1", 10}, {"r8", 10}, {"threads", 10}, {"inits", 10}, {"loads r1 x", 10}, {"acq", 10}})
	}
	checkError(t, "THREAD", 1, api.ErrText)
}

// P10.1: what may be a location is one, even a word that means something elsewhere.
func TestLocationNames(t *testing.T) {
	for _, name := range []string{"x", "r", "w", "rw", "r10", "ra", "init", "thread", "ask", "load", "acq", "rel", "dep", "abcdefghijklmnop", "r00"} {
		check(t, "init "+name+"=3\nthread\nload r1 "+name+" dep r2\nstore "+name+" 1 rel dep r3\nask "+name+"=4", litmus.Test{
			Locs:    []litmus.Init{{Name: name, V: 3}},
			Threads: [][]litmus.Instr{{{Op: litmus.Load, Rd: 1, Dep: 3}, {Op: litmus.Store, A: num(1), Rel: true, Dep: 4}}},
			Asks:    []litmus.Atom{{Thread: -1, V: 4}},
		})
	}
}

// P10.1: locations are in ascending order of names, wherever they are named first; their values are 0 unless specified.
func TestLocations(t *testing.T) {
	check(t, "init m=1 c=2\nthread\nload r1 z\nstore b 1\nthread\nswap r2 m 3\nlr r3 a\nask k=9 b=8 a=7", litmus.Test{
		Locs: []litmus.Init{{Name: "a"}, {Name: "b"}, {Name: "c", V: 2}, {Name: "k"}, {Name: "m", V: 1}, {Name: "z"}},
		Threads: [][]litmus.Instr{
			{{Op: litmus.Load, Rd: 1, Loc: 5}, {Op: litmus.Store, Loc: 1, A: num(1)}},
			{{Op: litmus.Swap, Rd: 2, Loc: 4, A: num(3)}, {Op: litmus.Lr, Rd: 3}},
		},
		Asks: []litmus.Atom{{Thread: -1, At: 0, V: 7}, {Thread: -1, At: 1, V: 8}, {Thread: -1, At: 3, V: 9}},
	})
	check(t, "init x10=1 x2=2 x=3 ra=4 r=18446744073709551615 r10=0\nthread", litmus.Test{
		Locs:    []litmus.Init{{Name: "r", V: math.MaxUint64}, {Name: "r10"}, {Name: "ra", V: 4}, {Name: "x", V: 3}, {Name: "x10", V: 1}, {Name: "x2", V: 2}},
		Threads: [][]litmus.Instr{nil},
	})
	check(t, "init\ninit y=1\ninit\ninit x=2 z=0\nthread", litmus.Test{
		Locs:    []litmus.Init{{Name: "x", V: 2}, {Name: "y", V: 1}, {Name: "z"}},
		Threads: [][]litmus.Instr{nil},
	})
}

// P10.1: threads, of which some may be empty, and instructions, which belong to the last one.
func TestThreads(t *testing.T) {
	li := func(rd int) litmus.Instr { return litmus.Instr{Op: litmus.Li, Rd: rd} }
	check(t, "thread", litmus.Test{Threads: [][]litmus.Instr{nil}})
	check(t, "thread\nthread\nli r1 0\nli r2 0\nthread\nthread\nli r3 0", litmus.Test{Threads: [][]litmus.Instr{nil, {li(1), li(2)}, nil, {li(3)}}})
	checkFaults(t, "thread\n", []fault{{"thread x", api.ErrText}, {"thread 1", api.ErrText}, {"thread thread", api.ErrText}, {"thread =", api.ErrText}})
}

// P10.1: atoms are in ascending order, first those of threads, over all lines of ask.
func TestAtoms(t *testing.T) {
	want := litmus.Test{
		Locs:    []litmus.Init{{Name: "x"}, {Name: "y"}},
		Threads: [][]litmus.Instr{nil, nil, nil},
		Asks:    []litmus.Atom{{Thread: 0, At: 1, V: 5}, {Thread: 0, At: 7, V: 2}, {Thread: 1, At: 0, V: 9}, {Thread: 2, At: 3, V: 1}, {Thread: -1, At: 0, V: 3}, {Thread: -1, At: 1, V: 2}},
	}
	check(t, "thread\nthread\nthread\nask 0:r1=5 0:r7=2 1:r0=9 2:r3=1 x=3 y=2", want)
	check(t, "thread\nthread\nthread\nask y=2 x=3 2:r3=1 1:r0=9 0:r7=2 0:r1=5", want)
	check(t, "thread\nthread\nthread\nask\nask y=2 0x2 : r3 = 0x1 0:r7=2\nask\nask 1:r0=9 x=3\nask 0:r1=5\nask", want)
	check(t, "thread\nask", litmus.Test{Threads: [][]litmus.Instr{nil}})
	checkFaults(t, "thread\n", []fault{{"ask 0", 10}, {"ask 0:", 10}, {"ask 0:r1", 10}, {"ask 0:r1=", 10}, {"ask 0=r1", 10}, {"ask 0 r1=1", 10}, {"ask 0:r1:1", 10}, {"ask 0:x=1", 10}, {"ask x:1", 10}, {"ask x=", 10}, {"ask =1", 10}, {"ask :r1=1", 10}, {"ask x=1 1", 10}, {"ask x=1=1", 10}, {"ask 5", 10}, {"ask 5:r8=1", 11}})
	checkFaults(t, "", []fault{{"init x", 10}, {"init x=", 10}, {"init x:1", 10}, {"init =1", 10}, {"init x 1", 10}, {"init 0:r1=1", 10}, {"init x=1 1", 10}})
}

// P10.1: what is specified twice, in one line or in two; that counts behind the number.
func TestTwice(t *testing.T) {
	twice := api.ErrTwice
	for _, gap := range []string{" ", "\ninit ", "\ninit\ninit "} {
		n := strings.Count(gap, "\n") + 1
		checkError(t, "init x=1"+gap+"x=1", n, twice)
		checkError(t, "init x=1 y=2"+gap+"x=3 z=1", n, twice)
		checkError(t, "init x=0"+gap+"x=0\nfly", n, twice)
	}
	for _, gap := range []string{" ", "\nask ", "\nask\nask "} {
		n := strings.Count(gap, "\n") + 2
		checkError(t, "thread\nask x=1"+gap+"x=1", n, twice)
		checkError(t, "thread\nask x=1 0:r1=1"+gap+"y=1 x=2", n, twice)
		checkError(t, "thread\nask 0:r1=1"+gap+"0:r1=1", n, twice)
		checkError(t, "thread\nask 3:r1=1 x=0"+gap+"0x3:r1=2", n, twice)
		checkError(t, "thread\nask 0:r1=1"+gap+"0:r1=x", n, api.ErrText)
		checkError(t, "thread\nask 0:r1=1"+gap+"0:r1", n, api.ErrText)
	}
	x := litmus.Test{Locs: []litmus.Init{{Name: "x", V: 1}}, Threads: [][]litmus.Instr{nil, nil}, Asks: []litmus.Atom{{Thread: 0, V: 1}, {Thread: 0, At: 1, V: 1}, {Thread: 1, V: 1}, {Thread: -1, V: 1}}}
	check(t, "init x=1\nthread\nthread\nask x=1 0:r0=1 1:r0=1 0:r1=1", x)
}

// P10.1: a thread's number above 4 counts as 4, so that two of them are the same.
func TestThreadNumbers(t *testing.T) {
	threads := "thread\nthread\nthread\nthread\n"
	for _, s := range []string{"ask 4:r1=1 5:r1=1", "ask 5:r1=1 6:r1=2", "ask 9:r1=1\nask 18446744073709551615:r1=1", "ask 0x100000000:r1=1 0x8000000000000000:r1=1", "ask 4:r1=1 0x100000000:r1=0"} {
		checkError(t, threads+s, 5+strings.Count(s, "\n"), api.ErrTwice)
	}
	for _, n := range []string{"4", "5", "100", "0x100000000", "0x7fffffffffffffff", "0x8000000000000000", "18446744073709551615"} {
		checkError(t, threads+"ask "+n+":r1=1", 0, api.ErrName)
		checkError(t, threads+"ask 3:r1=1 "+n+":r1=1 "+n+":r2=1 x=1", 0, api.ErrName)
	}
	checkError(t, "thread\nask 1:r1=1", 0, api.ErrName)
	check(t, threads+"ask 3:r7=1", litmus.Test{Threads: make([][]litmus.Instr, 4), Asks: []litmus.Atom{{Thread: 3, At: 7, V: 1}}})
}

// P10.1: what follows what; for init, thread and ask that is detected at once, for an instruction before excess tokens only.
func TestOrder(t *testing.T) {
	order, text, name := api.ErrOrder, api.ErrText, api.ErrName
	atOnce := func(before, word string) {
		checkFaults(t, before, []fault{{word, order}, {word + " 1", order}, {word + " x=1", order}, {word + " =", order}, {word + " r8=1", order}, {word + " x", order}, {word + " x=1 x=1", order}})
	}
	for _, before := range []string{"thread\n", "init x=1\nthread\n", "thread\nthread\nli r1 1\n", "thread\nask\n", "thread\nask x=1\n"} {
		atOnce(before, "init")
	}
	atOnce("thread\nask x=1\n", "thread")
	atOnce("thread\nask 0:r1=1\nask\n", "thread")
	for _, before := range []string{"", "\n", "init\n", "init x=1\n"} {
		atOnce(before, "ask")
	}
	for _, before := range []string{"", "init x=1\n", "thread\nask x=1\n", "thread\nli r1 1\nask\nask 0:r1=1\nask\n"} {
		for _, c := range instructions() {
			checkFaults(t, before, []fault{{c.line, order}, {c.line + " 1", order}, {c.line + " =", order}, {c.line + " fly", order}})
		}
		checkFaults(t, before, []fault{
			{"li", text}, {"li r1", text}, {"li r8", name}, {"li r1 r2", text}, {"li r1 1 2", order}, {"load r1 r2", name}, {"load r1 x rel", order}, {"load r1 x dep", text}, {"load r1 x dep r8", name}, {"load r1 x dep r1 acq", order},
			{"store x 1 dep 1", text}, {"store x 1 acq", order}, {"store x", text}, {"fence r", text}, {"fence r q", text}, {"beq 1 1", text}, {"beq 1 1 r1", text}, {"beq 1 1 9", order}, {"add r1 1 r9", name},
		})
	}
}

// P10.1: an ask that asks nothing may precede threads and instructions.
func TestEmptyAsk(t *testing.T) {
	li := litmus.Instr{Op: litmus.Li, Rd: 1, A: num(1)}
	check(t, "thread\nask\nli r1 1\nask\nthread\nask # 1\nask\nli r1 1\nask 0:r1=1", litmus.Test{Threads: [][]litmus.Instr{{li}, {li}}, Asks: []litmus.Atom{{At: 1, V: 1}}})
}

// P10.1: the errors of the lexer come first, at their lines; then that of the first faulty line.
func TestFirstLine(t *testing.T) {
	checkError(t, "fly\nthread x\n\nload r1, x", 4, api.ErrText)
	checkError(t, "ask\n1x", 2, api.ErrText)
	checkError(t, "thread\n# note\n\nli r8 1\nfly", 4, api.ErrName)
	checkError(t, "thread\nload r1 r2\ninit", 2, api.ErrName)
	checkError(t, "thread\n\ninit\nload r1 r2", 3, api.ErrOrder)
	full := "thread\n" + strings.Repeat(" ", 1993)
	check(t, full, litmus.Test{Threads: [][]litmus.Instr{nil}})
	checkError(t, full+" ", 0, api.ErrLength)
	checkError(t, full+"\nfly", 0, api.ErrLength)
	checkError(t, strings.Repeat(",", 2001), 0, api.ErrLength)
}

// P10.1: the errors of Check, at line 0, behind those of all lines.
func TestChecked(t *testing.T) {
	many := func(n int, line string) string { return strings.Repeat(line+"\n", n) }
	var names strings.Builder
	for c := 'a'; c <= 'h'; c++ {
		names.WriteString(" " + string(c) + "=1")
	}
	for _, c := range []struct {
		text string
		want api.Errno
	}{
		{"", api.ErrEmpty},
		{"# nothing\n", api.ErrEmpty},
		{"init x=1 y=2", api.ErrEmpty},
		{many(4, "thread"), api.OK},
		{many(5, "thread"), api.ErrMany},
		{"thread\n" + many(8, "li r1 1"), api.OK},
		{"thread\n" + many(9, "li r1 1"), api.ErrMany},
		{"thread\n" + many(4, "amo r1 x 1"), api.OK},
		{"thread\n" + many(4, "amo r1 x 1") + "load r1 x", api.ErrMany},
		{"init" + names.String() + "\nthread", api.OK},
		{"init" + names.String() + " i=1\nthread", api.ErrMany},
		{"init" + names.String() + "\nthread\nload r1 i", api.ErrMany},
		{"init" + names.String() + "\nthread\nask i=1", api.ErrMany},
		{"init" + names.String() + " i=1", api.ErrEmpty},
		{"thread\nbeq 1 1 1", api.ErrSkip},
		{"thread\nbeq 1 1 1\nli r1 1", api.OK},
		{"thread\nbne 1 1 2\nli r1 1", api.ErrSkip},
		{"thread\nbeq 1 1 1\nthread\nli r1 1", api.ErrSkip},
		{"thread\nbeq 1 1 7\n" + many(7, "li r1 1"), api.OK},
		{"thread\nbeq 1 1 8\n" + many(7, "li r1 1"), api.ErrSkip},
		{"thread\nbeq 1 1 9\n" + many(7, "li r1 1"), api.ErrSkip},
		{"thread\nbeq 1 1 10", api.ErrSkip},
		{"thread\nbeq 1 1 0x100000000", api.ErrSkip},
		{"thread\nbeq 1 1 0x8000000000000000", api.ErrSkip},
		{"thread\nbne 1 1 18446744073709551615", api.ErrSkip},
		{"thread\nbeq 1 1 9\nask 1:r1=1", api.ErrSkip},
		{"thread\nbeq 1 1 0\nask 1:r1=1", api.ErrName},
	} {
		if _, n, e := read.Parse(c.text); n != 0 || e != c.want {
			t.Errorf("Parse(%q): %d at %d, want %d", c.text, e, n, c.want)
		}
		if c.want != api.OK {
			checkError(t, c.text, 0, c.want)
			checkError(t, c.text+"\nfly", strings.Count(c.text, "\n")+2, api.ErrText)
		}
	}
}

// P10.1: as many atoms as a test may have; with one more there is a thread or a location too many as well.
func TestAllAtoms(t *testing.T) {
	var asks strings.Builder
	for thread := range 4 {
		for at := range 8 {
			asks.WriteString(" " + string(rune('0'+thread)) + ":r" + string(rune('0'+at)) + "=1")
		}
	}
	for c := 'a'; c <= 'h'; c++ {
		asks.WriteString(" " + string(c) + "=1")
	}
	s := "thread\nthread\nthread\nthread\nask" + asks.String()
	if x, n, e := read.Parse(s); e != api.OK || n != 0 || len(x.Asks) != 40 {
		t.Errorf("40 atoms: %d, %d at %d", len(x.Asks), e, n)
	}
	checkError(t, s+" 4:r0=1", 0, api.ErrMany)
	checkError(t, s+" i=1", 0, api.ErrMany)
}

// P10.1 (K3, K4): results share no memory, and are the same each time.
func TestShares(t *testing.T) {
	s := "init y=1 x=2\nthread\nload r1 y\nload r2 x\nthread\nload r3 x\nask y=1 x=1 0:r1=1"
	first, _, _ := read.Parse(s)
	second, _, _ := read.Parse(s)
	_ = append(first.Threads[0], litmus.Instr{})
	first.Threads[0][1], first.Locs[0], first.Asks[0] = litmus.Instr{}, litmus.Init{}, litmus.Atom{}
	check(t, s, second)
	if first.Threads[1][0] != (litmus.Instr{Op: litmus.Load, Rd: 3}) {
		t.Errorf("threads share instructions: %v", first.Threads)
	}
}

// P10.1 and P10.2: Parse of random texts, most of them with a fault or two, against the table of signatures.
func TestAnyText(t *testing.T) {
	r := rand.New(rand.NewSource(1))
	seen := map[api.Errno]int{}
	for range 200000 {
		s := random(r)
		got, n, e := read.Parse(s)
		want, wantN, wantE := parse(s)
		if n != wantN || e != wantE || !same(got, want) {
			t.Fatalf("Parse(%q): %+v, %d, %d, want %+v, %d, %d", s, got, n, e, want, wantN, wantE)
		}
		if e == api.OK && got.Check() != api.OK {
			t.Fatalf("Parse(%q): Check returns %d", s, got.Check())
		}
		seen[e]++
	}
	for _, e := range []api.Errno{api.OK, api.ErrText, api.ErrName, api.ErrMany, api.ErrSkip, api.ErrTwice, api.ErrEmpty, api.ErrOrder, api.ErrLength} {
		if seen[e] < 100 {
			t.Errorf("error %d was seen %d times", e, seen[e])
		}
	}
}

// P10.1: any bytes.
func TestAnyBytes(t *testing.T) {
	r := rand.New(rand.NewSource(2))
	for range 20000 {
		b := make([]byte, r.Intn(40))
		r.Read(b)
		checkAny(t, string(b))
		checkAny(t, "thread\nli r1 1"+string(b[:len(b)/8]))
	}
}

// checkAny checks a text against the table of signatures.
func checkAny(t *testing.T, s string) {
	t.Helper()
	got, n, e := read.Parse(s)
	want, wantN, wantE := parse(s)
	if n != wantN || e != wantE || !same(got, want) {
		t.Errorf("Parse(%q): %+v, %d, %d, want %+v, %d, %d", s, got, n, e, want, wantN, wantE)
	}
}
