package canon_test

import (
	"fmt"
	"math/rand"
	"slices"
	"strings"

	"ordeal/api"
	"ordeal/litmus"
)

// formats are the lines of all Ops, from 1 on: D is Rd, A and B the Args, L the location, P and S the sides, K the Skip; acq, rel and dep stand where they are permitted.
var formats = []string{
	"li D A", "add D A B", "sub D A B", "xor D A B", "and D A B", "or D A B", "shl D A B", "shr D A B",
	"load D L acq dep", "store L A rel dep", "swap D L A acq rel dep", "amo D L A acq rel dep", "lr D L acq dep", "sc D L A rel dep",
	"fence P S", "beq A B K", "bne A B K",
}

// printed is Print, from the table of formats.
func printed(x litmus.Test) string {
	s := ""
	for i, loc := range x.Locs {
		if i == 0 {
			s += "init"
		}
		s += fmt.Sprintf(" %s=%d", loc.Name, loc.V)
	}
	if s != "" {
		s += "\n"
	}
	for _, thread := range x.Threads {
		s += "thread\n"
		for _, i := range thread {
			s += formatted(x, i) + "\n"
		}
	}
	for i, a := range x.Asks {
		if i == 0 {
			s += "ask"
		}
		s += " " + asked(x, a)
	}
	if len(x.Asks) > 0 {
		s += "\n"
	}
	return s
}

// asked is Atom.
func asked(x litmus.Test, a litmus.Atom) string {
	if a.Thread == -1 {
		return fmt.Sprintf("%s=%d", x.Locs[a.At].Name, a.V)
	}
	return fmt.Sprintf("%d:r%d=%d", a.Thread, a.At, a.V)
}

// formatted is the line of an instruction of x.
func formatted(x litmus.Test, i litmus.Instr) string {
	arg := func(a litmus.Arg) string {
		return fmt.Sprint(map[bool]string{true: "r"}[a.Reg], a.N)
	}
	optional := func(has bool, s string) string {
		return map[bool]string{true: s}[has]
	}
	sides := []string{"", "r", "w", "rw"}
	var words []string
	for _, word := range strings.Fields(formats[i.Op-1]) {
		switch word {
		case "D":
			word = fmt.Sprintf("r%d", i.Rd)
		case "A":
			word = arg(i.A)
		case "B":
			word = arg(i.B)
		case "L":
			word = x.Locs[i.Loc].Name
		case "P":
			word = sides[i.Pred]
		case "S":
			word = sides[i.Succ]
		case "K":
			word = fmt.Sprint(i.Skip)
		case "acq":
			word = optional(i.Acq, word)
		case "rel":
			word = optional(i.Rel, word)
		case "dep":
			word = optional(i.Dep > 0, fmt.Sprintf("dep r%d", i.Dep-1))
		}
		if word != "" {
			words = append(words, word)
		}
	}
	return strings.Join(words, " ")
}

// permits: whether an instruction of an Op may have a part.
func permits(op int, part string) bool {
	return slices.Contains(strings.Fields(formats[op-1]), part)
}

// value is a random number, often a small one.
func value(r *rand.Rand) uint64 {
	switch r.Intn(8) {
	case 0:
		return r.Uint64()
	case 1:
		return 1<<64 - 1
	}
	return uint64(r.Intn(12))
}

// instruction is a random one, valid if so many instructions follow it.
func instruction(r *rand.Rand, locs, following int) litmus.Instr {
	i := litmus.Instr{Op: 1 + r.Intn(17)}
	for i.IsMemory() && locs == 0 {
		i.Op = 1 + r.Intn(17)
	}
	is := func(part string) bool { return permits(i.Op, part) }
	arg := func() litmus.Arg {
		if i.Op != litmus.Li && r.Intn(2) == 0 {
			return litmus.Arg{Reg: true, N: uint64(r.Intn(8))}
		}
		return litmus.Arg{N: value(r)}
	}
	if is("D") {
		i.Rd = r.Intn(8)
	}
	if is("A") {
		i.A = arg()
	}
	if is("B") {
		i.B = arg()
	}
	if is("L") {
		i.Loc, i.Dep = r.Intn(locs), r.Intn(2)*r.Intn(9)
		i.Acq, i.Rel = is("acq") && r.Intn(2) == 0, is("rel") && r.Intn(2) == 0
	}
	if is("P") {
		i.Pred, i.Succ = 1+r.Intn(3), 1+r.Intn(3)
	}
	if is("K") {
		i.Skip = r.Intn(following + 1)
	}
	return i
}

// random is a random valid test.
func random(r *rand.Rand) litmus.Test {
	for {
		if x := attempt(r); x.Check() == api.OK {
			return x
		}
	}
}

// attempt is a random test that may have too many events.
func attempt(r *rand.Rand) litmus.Test {
	var x litmus.Test
	for _, name := range []string{"a", "abcdefghijklmnop", "acq", "ask", "init", "r", "r10", "rw", "thread", "x", "y", "z"} {
		if len(x.Locs) < 8 && r.Intn(4) == 0 {
			x.Locs = append(x.Locs, litmus.Init{Name: name, V: value(r)})
		}
	}
	for thread := range 1 + r.Intn(4) {
		size := r.Intn(6)
		var list []litmus.Instr
		for i := range size {
			list = append(list, instruction(r, len(x.Locs), size-1-i))
		}
		x.Threads = append(x.Threads, list)
		for at := range 8 {
			if r.Intn(10) == 0 {
				x.Asks = append(x.Asks, litmus.Atom{Thread: thread, At: at, V: value(r)})
			}
		}
	}
	for at := range x.Locs {
		if r.Intn(3) == 0 {
			x.Asks = append(x.Asks, litmus.Atom{Thread: -1, At: at, V: value(r)})
		}
	}
	return x
}

// loose is another text of a test: its numbers, blanks, comments and lines are written otherwise, and init and ask have several lines in any order.
func loose(r *rand.Rand, x litmus.Test) string {
	named := map[string]bool{}
	for _, thread := range x.Threads {
		for _, i := range thread {
			if i.IsMemory() {
				named[x.Locs[i.Loc].Name] = true
			}
		}
	}
	var inits, asks, lines []string
	for _, loc := range x.Locs {
		if loc.V != 0 || !named[loc.Name] || r.Intn(2) == 0 {
			inits = append(inits, fmt.Sprint(loc.Name, " = ", spelt(r, loc.V)))
		}
	}
	for _, a := range x.Asks {
		what, _, _ := strings.Cut(asked(x, a), "=")
		asks = append(asks, strings.ReplaceAll(what, ":", " : ")+" = "+spelt(r, a.V))
	}
	lines = append(lines, scattered(r, "init", inits)...)
	for _, thread := range x.Threads {
		lines = append(lines, "thread")
		for _, i := range thread {
			lines = append(lines, formatted(x, i))
		}
	}
	lines = append(lines, scattered(r, "ask", asks)...)
	s := ""
	for _, line := range lines {
		s += []string{"", "\n", " \t\r\n", "# ask\n"}[r.Intn(4)]
		s += strings.ReplaceAll(line, " ", []string{" ", "\t", "  "}[r.Intn(3)])
		s += []string{"\n", " \n", "\r\n", "# note\n", "\t#\r\n"}[r.Intn(5)]
	}
	return s
}

// spelt is a number, in one of the ways in which a text may have it.
func spelt(r *rand.Rand, v uint64) string {
	return fmt.Sprintf([]string{"%d", "00%d", "0x%x", "0x00%x"}[r.Intn(4)], v)
}

// scattered are items in any order, in any lines that begin with a word.
func scattered(r *rand.Rand, word string, items []string) []string {
	r.Shuffle(len(items), func(i, k int) { items[i], items[k] = items[k], items[i] })
	var lines []string
	for _, item := range items {
		if len(lines) == 0 || r.Intn(3) == 0 {
			lines = append(lines, word)
		}
		lines[len(lines)-1] += " " + item
	}
	return lines
}

// same compares all parts of two tests.
func same(x, y litmus.Test) bool {
	return slices.Equal(x.Locs, y.Locs) && slices.Equal(x.Asks, y.Asks) &&
		slices.EqualFunc(x.Threads, y.Threads, func(a, b []litmus.Instr) bool { return slices.Equal(a, b) })
}

// copied shares no memory with x.
func copied(x litmus.Test) litmus.Test {
	y := litmus.Test{Locs: slices.Clone(x.Locs), Asks: slices.Clone(x.Asks)}
	for _, thread := range x.Threads {
		y.Threads = append(y.Threads, slices.Clone(thread))
	}
	return y
}

// changed is x with one thing changed; it may be invalid, or x again.
func changed(r *rand.Rand, x litmus.Test) litmus.Test {
	y := copied(x)
	thread := r.Intn(len(y.Threads))
	list := y.Threads[thread]
	switch r.Intn(6) {
	case 0:
		if n := len(y.Locs); n > 0 {
			y.Locs[r.Intn(n)].V = value(r)
		}
	case 1:
		if n := len(y.Locs); n > 0 {
			y.Locs[r.Intn(n)].Name += "0"
		}
	case 2:
		if n := len(y.Asks); n > 0 {
			y.Asks[r.Intn(n)].V = value(r)
		}
	case 3:
		y.Threads[thread] = append(list, instruction(r, len(y.Locs), 0))
	case 4:
		y.Threads = append(y.Threads, nil)
	default:
		if n := len(list); n > 0 {
			list[r.Intn(n)] = bent(r, list[r.Intn(n)], len(y.Locs))
		}
	}
	return y
}

// bent is an instruction with another value of one field.
func bent(r *rand.Rand, i litmus.Instr, locs int) litmus.Instr {
	switch r.Intn(11) {
	case 0:
		i.Op = 1 + r.Intn(17)
	case 1:
		i.Rd = r.Intn(8)
	case 2:
		i.Loc = r.Intn(max(locs, 1))
	case 3:
		i.A = litmus.Arg{Reg: !i.A.Reg, N: i.A.N}
	case 4:
		i.B = litmus.Arg{Reg: r.Intn(2) == 0, N: uint64(r.Intn(8))}
	case 5:
		i.Acq = !i.Acq
	case 6:
		i.Rel = !i.Rel
	case 7:
		i.Dep = r.Intn(9)
	case 8:
		i.Pred = 1 + r.Intn(3)
	case 9:
		i.Succ = 1 + r.Intn(3)
	default:
		i.Skip = r.Intn(3)
	}
	return i
}
