package report_test

import (
	"encoding/hex"
	"fmt"
	"maps"
	"math"
	"math/big"
	"math/rand"
	"regexp"
	"slices"
	"strings"

	"ordeal/api"
	"ordeal/outcome"
	"ordeal/report"
	"ordeal/table"
	"ordeal/verdict"
)

// model is the verdicts of a table, by key.
type model map[api.Hash]verdict.Verdict

// keys are those of a model, in order.
func (m model) keys() []api.Hash {
	return slices.SortedFunc(maps.Keys(m), func(a, b api.Hash) int { return slices.Compare(a[:], b[:]) })
}

// table is the one of a model, to which the entries were added in a random order.
func (m model) table(r *rand.Rand) *table.Table {
	keys := m.keys()
	r.Shuffle(len(keys), func(i, j int) { keys[i], keys[j] = keys[j], keys[i] })
	var t table.Table
	for _, k := range keys {
		t.Put(k, m[k].Write())
	}
	return &t
}

// rendered is the report of a model.
func (m model) rendered() string {
	s := fmt.Sprintf("ordeal report %d\n", len(m))
	for _, k := range m.keys() {
		s += entry(k, m[k])
	}
	return s + "end\n"
}

// entry is the lines of a verdict.
func entry(k api.Hash, v verdict.Verdict) string {
	if v.Why != api.OK {
		return fmt.Sprintf("%x rejected %d line %d\n", k, v.Why, v.Line)
	}
	words := []string{"never", "sometimes", "always"}
	tso := "none"
	if v.HasTso {
		tso = words[v.AskTso]
	}
	s := fmt.Sprintf("%x test %d %s %s\n", k, v.N, tso, words[v.AskRv])
	marks := map[outcome.State]string{}
	for _, x := range v.Tso {
		marks[x] = "t"
	}
	for _, x := range v.Rv {
		marks[x] += "r"
	}
	for _, x := range slices.SortedFunc(maps.Keys(marks), outcome.Compare) {
		s += " " + marks[x]
		for _, n := range x.V[:v.N] {
			s += fmt.Sprintf(" %d", n)
		}
		s += "\n"
	}
	return s
}

// counts is what Count returns for a model.
func (m model) counts() report.Counts {
	c := report.Counts{All: len(m)}
	for _, v := range m {
		switch {
		case v.Why != api.OK:
			c.Rejected++
			continue
		case !v.HasTso:
			c.Pairs++
		default:
			c.Tso[v.AskTso]++
			if fmt.Sprint(v.Tso) != fmt.Sprint(v.Rv) {
				c.Unlike++
			}
		}
		c.Rv[v.AskRv]++
	}
	return c
}

// The forms of a report and of one of its entries.
var (
	states  = `((?: (?:t|r|tr)(?: number)*\n)*)`
	entries = form(`([0-9a-f]{64}) (?:rejected (number) line (number)|test (number) (none|never|sometimes|always) (never|sometimes|always))\n` + states)
	reports = form(`\Aordeal report (number)\n((?:` + strings.NewReplacer("(?:", "(?:", "(", "(?:").Replace(entries.String()) + `)*)end(?:\n(?s:.*))?\z`)
)

// form is an expression in which number stands for that of a decimal number without leading zeros.
func form(s string) *regexp.Regexp {
	return regexp.MustCompile(strings.ReplaceAll(s, "number", "(?:0|[1-9][0-9]*)"))
}

// parsed is a second implementation of Parse.
func parsed(s string) (model, api.Errno) {
	parts := reports.FindStringSubmatch(s)
	if parts == nil {
		return nil, api.ErrForm
	}
	m := model{}
	list := entries.FindAllStringSubmatch(parts[2], -1)
	for _, words := range list {
		v, ok := judged(words)
		if !ok {
			return nil, api.ErrForm
		}
		m[key(words[1])] = v
	}
	if parts[1] != fmt.Sprint(len(list)) || len(m) != len(list) {
		return nil, api.ErrForm
	}
	if m.rendered() != s {
		return nil, api.ErrOrder
	}
	return m, api.OK
}

// judged is the verdict of the groups of an entry.
func judged(words []string) (verdict.Verdict, bool) {
	if words[2] != "" {
		why, line := limited(words[2], 17), limited(words[3], 2001)
		return verdict.Verdict{Why: api.Errno(why.Int64()), Line: int(line.Int64())}, why.Sign() > 0 && words[7] == "" && line.Sign() >= 0
	}
	kinds := map[string]int{"sometimes": 1, "always": 2}
	v := verdict.Verdict{HasTso: words[5] != "none", AskTso: kinds[words[5]], AskRv: kinds[words[6]]}
	v.N = int(limited(words[4], 40).Int64())
	for line := range strings.Lines(words[7]) {
		numbers := strings.Fields(line)
		x := outcome.State{N: len(numbers) - 1}
		if x.N != v.N {
			return v, false
		}
		for i, word := range numbers[1:] {
			n := limited(word, math.MaxUint64)
			if n.Sign() < 0 {
				return v, false
			}
			x.V[i] = n.Uint64()
		}
		if strings.Contains(numbers[0], "t") {
			v.Tso = append(v.Tso, x)
		}
		if strings.Contains(numbers[0], "r") {
			v.Rv = append(v.Rv, x)
		}
	}
	isPossible := v.HasTso || len(v.Tso) == 0
	return v, v.N >= 0 && isPossible && v.Tso.Good(v.N) && v.Rv.Good(v.N) && max(len(v.Tso), len(v.Rv)) <= 100000
}

// limited is a number, or -1 if it is greater than most.
func limited(word string, most uint64) *big.Int {
	n, _ := new(big.Int).SetString(word, 10)
	if n.Cmp(new(big.Int).SetUint64(most)) > 0 {
		return big.NewInt(-1)
	}
	return n
}

// key is the one of its digits.
func key(digits string) api.Hash {
	var k api.Hash
	hex.Decode(k[:], []byte(digits))
	return k
}

// randomModel is one of a few verdicts.
func randomModel(r *rand.Rand) model {
	m := model{}
	for range r.Intn(5) {
		var k api.Hash
		if r.Intn(3) == 0 {
			k[r.Intn(len(k))] = byte(r.Intn(256))
		} else {
			r.Read(k[:])
		}
		m[k] = randomVerdict(r)
	}
	return m
}

// randomVerdict is one that an encoding may have.
func randomVerdict(r *rand.Rand) verdict.Verdict {
	if r.Intn(5) == 0 {
		return verdict.Verdict{Why: api.Errno(1 + r.Intn(17)), Line: []int{0, 1, 2001, r.Intn(2002)}[r.Intn(4)]}
	}
	v := verdict.Verdict{N: r.Intn(5), HasTso: r.Intn(3) > 0, AskRv: r.Intn(3)}
	if r.Intn(10) == 0 {
		v.N = []int{40, r.Intn(41)}[r.Intn(2)]
	}
	v.Rv = randomSet(r, v.N)
	if !v.HasTso {
		return v
	}
	v.AskTso = r.Intn(3)
	switch r.Intn(4) {
	case 0:
		v.Tso = slices.Clone(v.Rv)
	case 1:
		// Some of the other set's states, and some more.
		for _, x := range v.Rv {
			if r.Intn(2) == 0 {
				v.Tso = append(v.Tso, x)
			}
		}
		v.Tso = v.Tso.With(randomSet(r, v.N))
	default:
		v.Tso = randomSet(r, v.N)
	}
	return v
}

// randomSet is one of a few states of n numbers each.
func randomSet(r *rand.Rand, n int) outcome.Set {
	seen := map[outcome.State]bool{}
	for range r.Intn(6) {
		x := outcome.State{N: n}
		for i := range n {
			x.V[i] = []uint64{0, 0, 1, 1, 2, 9, 10, 1 << 63, math.MaxUint64, r.Uint64()}[r.Intn(10)]
		}
		seen[x] = true
	}
	return outcome.Of(seen)
}

// What is bent in a report, where it looks like that.
var (
	word  = regexp.MustCompile(`[^ \n]+`)
	state = regexp.MustCompile(`(?m)^ .*\n`)
	both  = regexp.MustCompile(`(?m)^ tr(.*)$`)
	whole = regexp.MustCompile(`(?m)^[0-9a-f]{64} .*\n(?: .*\n)*`)
)

// bent is a report with some changes: of bytes, of words, of lines or of the entries' order.
func bent(r *rand.Rand, s string) string {
	for range 1 + r.Intn(2) {
		switch r.Intn(4) {
		case 0:
			s = withBentBytes(r, s)
		case 1:
			s = withBentWord(r, s)
		case 2:
			s = withBentLines(r, s)
		default:
			s = withBentOrder(r, s)
		}
	}
	return s
}

// withBentBytes inserts, removes or replaces a byte.
func withBentBytes(r *rand.Rand, s string) string {
	b := []byte(s)
	at := r.Intn(len(b) + 1)
	others := " \n0123456789abcdefnort\x00\xff"
	c := others[r.Intn(len(others))]
	switch kind := r.Intn(3); {
	case kind == 0:
		b = slices.Insert(b, at, c)
	case at == len(b):
	case kind == 1:
		b = slices.Delete(b, at, at+1)
	default:
		b[at] = c
	}
	return string(b)
}

// withBentWord replaces a word by another one.
func withBentWord(r *rand.Rand, s string) string {
	list := word.FindAllStringIndex(s, -1)
	if len(list) == 0 {
		return s
	}
	at := list[r.Intn(len(list))]
	others := []string{
		"", "t", "r", "tr", "rt", "none", "never", "sometimes", "always", "test", "rejected", "line", "end",
		"0", "1", "2", "3", "4", "5", "17", "18", "40", "41", "2001", "2002", "00", "01", "+1", "-1", "1_0", "0x1", "1e1",
		"18446744073709551615", "18446744073709551616", "99999999999999999999999",
	}
	return s[:at[0]] + others[r.Intn(len(others))] + s[at[1]:]
}

// withBentLines swaps, repeats or removes lines, or divides the one of a state in both sets.
func withBentLines(r *rand.Rand, s string) string {
	lines := slices.Collect(strings.Lines(s))
	if len(lines) == 0 {
		return s
	}
	i, j := r.Intn(len(lines)), r.Intn(len(lines))
	switch r.Intn(4) {
	case 0:
		lines[i], lines[j] = lines[j], lines[i]
	case 1:
		lines = slices.Insert(lines, i, lines[j])
	case 2:
		lines = slices.Delete(lines, i, i+1)
	default:
		s = strings.Join(lines, "")
		return both.ReplaceAllString(s, " r$1\n t$1")
	}
	return strings.Join(lines, "")
}

// withBentOrder shuffles the entries, or the states of them.
func withBentOrder(r *rand.Rand, s string) string {
	one := whole
	if r.Intn(2) == 0 {
		one = state
	}
	list := one.FindAllString(s, -1)
	if len(list) == 0 {
		return s
	}
	i := r.Intn(len(list))
	j := min(i+1, len(list)-1)
	list[i], list[j] = list[j], list[i]
	next := 0
	return one.ReplaceAllStringFunc(s, func(string) string {
		next++
		return list[next-1]
	})
}
