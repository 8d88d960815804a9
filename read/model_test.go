package read_test

import (
	"maps"
	"math/rand"
	"slices"
	"sort"
	"strconv"
	"strings"

	"ordeal/api"
	"ordeal/lex"
	"ordeal/litmus"
)

// mnemonics in the order of their Ops, each with its signature: d register, a and b args, l location, n number, k Skip, p and s sides; then what may follow: q acq, e rel, h dep.
var mnemonics = strings.Fields("li:dn add:dab sub:dab xor:dab and:dab or:dab shl:dab shr:dab load:dlqh store:laeh swap:dlaqeh amo:dlaqeh lr:dlqh sc:dlaeh fence:ps beq:abk bne:abk")

// reading is what a text says, by names of locations.
type reading struct {
	values  map[string]uint64
	given   map[string]bool
	threads [][]litmus.Instr
	places  [][]string // the name of each instruction's location
	regs    map[[2]int]uint64
	asked   map[string]uint64
}

// parse is Parse, from the table of signatures, over patterns of tokens.
func parse(s string) (litmus.Test, int, api.Errno) {
	lines, n, e := lex.Lines(s)
	if e != 0 {
		return litmus.Test{}, n, e
	}
	r := &reading{values: map[string]uint64{}, given: map[string]bool{}, regs: map[[2]int]uint64{}, asked: map[string]uint64{}}
	for _, line := range lines {
		if e := r.line(line.Tokens); e != 0 {
			return litmus.Test{}, line.N, e
		}
	}
	x := r.test()
	if e := x.Check(); e != 0 {
		return litmus.Test{}, 0, e
	}
	return x, 0, 0
}

func (r *reading) line(tokens []lex.Token) api.Errno {
	hasAsked := len(r.regs)+len(r.asked) > 0
	switch tokens[0].Text {
	case "init":
		if len(r.threads) > 0 {
			return 16
		}
		return r.items(tokens[1:], false)
	case "thread":
		if hasAsked {
			return 16
		}
		if len(tokens) > 1 {
			return 10
		}
		r.threads, r.places = append(r.threads, nil), append(r.places, nil)
		return 0
	case "ask":
		if len(r.threads) == 0 {
			return 16
		}
		return r.items(tokens[1:], true)
	}
	for i, m := range mnemonics {
		name, signature, _ := strings.Cut(m, ":")
		if tokens[0].Text == name {
			return r.instruction(i+1, signature, tokens[1:], hasAsked)
		}
	}
	return 10
}

// items are those of init, or those of ask.
func (r *reading) items(tokens []lex.Token, isAsk bool) api.Errno {
	for len(tokens) > 0 {
		pattern := "l=n"
		if isAsk && tokens[0].Kind == lex.Num {
			pattern = "n:d=n" // a register of a thread
		}
		for i, c := range pattern {
			if e := fits(byte(c), tokens, i); e != 0 {
				return e
			}
		}
		size := len(pattern)
		name, v := tokens[0].Text, tokens[size-1].N
		switch {
		case size == 5:
			key := [2]int{int(min(tokens[0].N, 4)), int(tokens[2].Text[1] - '0')}
			if _, ok := r.regs[key]; ok {
				return 14
			}
			r.regs[key] = v
		case isAsk:
			if _, ok := r.asked[name]; ok {
				return 14
			}
			r.asked[name] = v
			r.values[name] += 0
		default:
			if r.given[name] {
				return 14
			}
			r.given[name] = true
			r.values[name] = v
		}
		tokens = tokens[size:]
	}
	return 0
}

// fits is the error of a token where a letter of a pattern is required.
func fits(letter byte, tokens []lex.Token, at int) api.Errno {
	if at >= len(tokens) {
		return 10
	}
	token := tokens[at]
	isAny := len(token.Text) == 2 && token.Text[0] == 'r' && strings.Contains("0123456789", token.Text[1:])
	switch letter {
	case '=', ':':
		if token.Text == string(letter) {
			return 0
		}
	case 'n', 'k':
		if token.Kind == lex.Num {
			return 0
		}
	case 'p', 's':
		if slices.Contains([]string{"r", "w", "rw"}, token.Text) {
			return 0
		}
	case 'l':
		if token.Kind == lex.Word && (isAny || len(token.Text) > 16) {
			return 11
		}
		if token.Kind == lex.Word {
			return 0
		}
	case 'd', 'a', 'b':
		if letter != 'd' && token.Kind == lex.Num {
			return 0
		}
		if isAny && token.Text[1] > '7' {
			return 11
		}
		if isAny {
			return 0
		}
	}
	return 10
}

func (r *reading) instruction(op int, signature string, tokens []lex.Token, hasAsked bool) api.Errno {
	x := litmus.Instr{Op: op}
	place := ""
	at := 0
	register := func(i int) int { return int(tokens[i].Text[1] - '0') }
	for i := range len(signature) {
		c := signature[i]
		if word := map[byte]string{'q': "acq", 'e': "rel", 'h': "dep"}[c]; word != "" {
			if at == len(tokens) || tokens[at].Text != word {
				continue
			}
			at++
			x.Acq, x.Rel = x.Acq || c == 'q', x.Rel || c == 'e'
			if c == 'h' {
				if e := fits('d', tokens, at); e != 0 {
					return e
				}
				x.Dep = register(at) + 1
				at++
			}
			continue
		}
		if e := fits(c, tokens, at); e != 0 {
			return e
		}
		arg := litmus.Arg{N: tokens[at].N}
		if tokens[at].Kind == lex.Word && (c == 'a' || c == 'b') {
			arg = litmus.Arg{Reg: true, N: uint64(register(at))}
		}
		side := map[string]int{"r": 1, "w": 2, "rw": 3}[tokens[at].Text]
		switch c {
		case 'd':
			x.Rd = register(at)
		case 'a', 'n':
			x.A = arg
		case 'b':
			x.B = arg
		case 'l':
			place = tokens[at].Text
		case 'k':
			x.Skip = int(min(arg.N, 9))
		case 'p':
			x.Pred = side
		case 's':
			x.Succ = side
		}
		at++
	}
	if len(r.threads) == 0 || hasAsked {
		return 16
	}
	if at < len(tokens) {
		return 10
	}
	if place != "" {
		r.values[place] += 0
	}
	last := len(r.threads) - 1
	r.threads[last], r.places[last] = append(r.threads[last], x), append(r.places[last], place)
	return 0
}

// test is what was read, with the numbers of locations.
func (r *reading) test() litmus.Test {
	x := litmus.Test{Threads: r.threads}
	numbers := map[string]int{}
	for i, name := range slices.Sorted(maps.Keys(r.values)) {
		numbers[name] = i
		x.Locs = append(x.Locs, litmus.Init{Name: name, V: r.values[name]})
	}
	for i, places := range r.places {
		for k, name := range places {
			if name != "" {
				x.Threads[i][k].Loc = numbers[name]
			}
		}
	}
	for key, v := range r.regs {
		x.Asks = append(x.Asks, litmus.Atom{Thread: key[0], At: key[1], V: v})
	}
	for name, v := range r.asked {
		x.Asks = append(x.Asks, litmus.Atom{Thread: -1, At: numbers[name], V: v})
	}
	rank := func(a litmus.Atom) int { return (a.Thread+10)%10*100 + a.At }
	sort.Slice(x.Asks, func(i, k int) bool { return rank(x.Asks[i]) < rank(x.Asks[k]) })
	return x
}

// pick is one of the words of a list.
func pick(r *rand.Rand, list string) string {
	words := strings.Fields(list)
	return words[r.Intn(len(words))]
}

// operand is a random one for a letter of a signature.
func operand(r *rand.Rand, letter byte) string {
	switch letter {
	case 'd':
		return "r" + strconv.Itoa(r.Intn(8))
	case 'a', 'b':
		return pick(r, "r0 r1 r7 0 1 0x10")
	case 'l':
		return pick(r, "x y z a lock r10")
	case 'n':
		return pick(r, "0 1 2 0xff 18446744073709551615")
	case 'k':
		return pick(r, "0 0 0 0 0 0 1 2")
	case 'p', 's':
		return pick(r, "r w rw")
	case 'q', 'e', 'h':
		if r.Intn(2) == 0 {
			return ""
		}
		return map[byte]string{'q': "acq", 'e': "rel", 'h': "dep r" + strconv.Itoa(r.Intn(8))}[letter]
	}
	return ""
}

// items are random ones of init or ask, rarely one twice.
func items(r *rand.Rand, isAsk bool, threads int) string {
	line := map[bool]string{false: "init", true: "ask"}[isAsk]
	keys := []string{"x", "y", "z", "k", "r10"}
	for thread := range threads {
		if isAsk {
			keys = append(keys, strconv.Itoa(thread)+":r1", strconv.Itoa(thread)+":r6")
		}
	}
	r.Shuffle(len(keys), func(i, k int) { keys[i], keys[k] = keys[k], keys[i] })
	for _, key := range keys[:r.Intn(4)] {
		line += " " + strings.ReplaceAll(key, ":", " : ") + " = " + operand(r, 'n')
	}
	return line
}

// random is a text, in most cases with a fault or two, or with many threads, instructions or blanks.
func random(r *rand.Rand) string {
	var lines []string
	for range r.Intn(2) {
		lines = append(lines, items(r, false, 0))
	}
	threads := r.Intn(4)
	if r.Intn(8) == 0 {
		threads = r.Intn(6)
	}
	for range threads {
		lines = append(lines, "thread")
		for range r.Intn(4) {
			name, signature, _ := strings.Cut(mnemonics[r.Intn(len(mnemonics))], ":")
			for i := range len(signature) {
				name += " " + operand(r, signature[i])
			}
			lines = append(lines, name)
		}
	}
	for range r.Intn(3) {
		lines = append(lines, items(r, true, threads))
	}
	for range r.Intn(3) {
		lines = spoil(r, lines)
	}
	s := strings.Join(lines, "\n")
	if r.Intn(200) == 0 {
		s += strings.Repeat(" ", 2001)
	}
	return s
}

// spoil makes a fault in some line, or moves one.
func spoil(r *rand.Rand, lines []string) []string {
	if len(lines) == 0 {
		return lines
	}
	i, k := r.Intn(len(lines)), r.Intn(len(lines))
	words := strings.Fields(lines[i])
	if len(words) == 0 {
		return lines
	}
	at := r.Intn(len(words))
	other := pick(r, "r0 r1 r8 r9 x y = : 0 1 5 0x1 acq rel dep r w rw li load store thread init ask fly abcdefghijklmnopq")
	switch r.Intn(8) {
	case 0:
		words = slices.Delete(words, at, at+1)
	case 1:
		words = slices.Insert(words, at, other)
	case 2:
		words = append(words, other)
	case 3, 4:
		words[at] = other
	case 5:
		lines[i], lines[k] = lines[k], lines[i]
		return lines
	case 6:
		return slices.Insert(lines, k, lines[i])
	default:
		return lines
	}
	lines[i] = strings.Join(words, " ")
	return lines
}
