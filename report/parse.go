package report

import (
	"math"
	"strconv"
	"strings"

	"ordeal/api"
	"ordeal/cond"
	"ordeal/outcome"
	"ordeal/sha"
	"ordeal/table"
	"ordeal/verdict"
)

// firstWords is how many words the first line of any entry has.
const firstWords = 5

// Parse: the table of a report.
func Parse(s string) (*table.Table, api.Errno) {
	r := reader{rest: s}
	t, ok := r.report()
	if !ok {
		return nil, api.ErrForm
	}
	text, e := Text(t)
	if e != api.OK {
		// Some set has more states than that of any verdict.
		return nil, api.ErrForm
	}
	if text != s {
		return nil, api.ErrOrder
	}
	return t, api.OK
}

// reader takes lines from the front of a text.
type reader struct {
	rest string
}

// line: the next one. The byte 10 behind it may be missing, since what follows the last line is not examined; where no line is left it is "", which is none of a report.
func (r *reader) line() string {
	line, rest, _ := strings.Cut(r.rest, "\n")
	r.rest = rest
	return line
}

// report: the table of all lines, up to the last one of the report.
func (r *reader) report() (*table.Table, bool) {
	text, isTitle := strings.CutPrefix(r.line(), title)
	count, isCount := number(text, math.MaxUint64)
	if !isTitle || !isCount {
		return nil, false
	}
	t := &table.Table{}
	for range count {
		k, v, ok := r.entry()
		if !ok || !t.Put(k, v.Write()) {
			return nil, false
		}
	}
	return t, r.line() == ending
}

// entry: the key and the verdict of the next lines.
func (r *reader) entry() (api.Hash, verdict.Verdict, bool) {
	words := strings.Split(r.line(), " ")
	if len(words) != firstWords {
		return api.Hash{}, verdict.Verdict{}, false
	}
	k, isKey := sha.Parse(words[0])
	v, isVerdict := r.verdict(words[1], words[2:])
	return k, v, isKey && isVerdict
}

// verdict: the one of the last words of a first line, and of the lines of its states.
func (r *reader) verdict(word string, words []string) (verdict.Verdict, bool) {
	switch word {
	case rejectedWord:
		return rejection(words)
	case testWord:
		v, isTest := stateless(words)
		hasStates := isTest && r.states(&v)
		return v, hasStates
	}
	return verdict.Verdict{}, false
}

// states puts the states of the next lines into the sets of v.
func (r *reader) states(v *verdict.Verdict) bool {
	for strings.HasPrefix(r.rest, " ") {
		words := strings.Split(r.line()[1:], " ")
		x, ok := state(words[1:], v.N)
		if !ok || !put(v, words[0], x) {
			return false
		}
	}
	return true
}

// rejection: the verdict on a text that is not a test.
func rejection(words []string) (verdict.Verdict, bool) {
	why, isWhy := number(words[0], uint64(api.ErrLength))
	line, isLine := number(words[2], api.MaxText+1)
	if !isWhy || why == uint64(api.OK) || words[1] != lineWord || !isLine {
		return verdict.Verdict{}, false
	}
	return verdict.Verdict{Why: api.Errno(why), Line: int(line)}, true
}

// stateless: the verdict on a test, without its states.
func stateless(words []string) (verdict.Verdict, bool) {
	n, isNumber := number(words[0], outcome.MaxSlots)
	tso, hasTso := kind(words[1])
	rv, hasRv := kind(words[2])
	if !isNumber || !hasTso && words[1] != noneWord || !hasRv {
		return verdict.Verdict{}, false
	}
	return verdict.Verdict{N: int(n), HasTso: hasTso, AskTso: tso, AskRv: rv}, true
}

// kind: how often a condition holds, of a word.
func kind(word string) (int, bool) {
	for k := range cond.Always + 1 {
		if word == kindWord(k) {
			return k, true
		}
	}
	return 0, false
}

// state: the one of n numbers.
func state(words []string, n int) (outcome.State, bool) {
	if len(words) != n {
		return outcome.State{}, false
	}
	x := outcome.State{N: n}
	for i, word := range words {
		v, ok := number(word, math.MaxUint64)
		if !ok {
			return outcome.State{}, false
		}
		x.V[i] = v
	}
	return x, true
}

// put adds a state to those sets of v that its mark names.
func put(v *verdict.Verdict, mark string, x outcome.State) bool {
	switch mark {
	case tsoMark:
		return v.HasTso && extend(&v.Tso, x)
	case rvMark:
		return extend(&v.Rv, x)
	case bothMark:
		return v.HasTso && extend(&v.Tso, x) && extend(&v.Rv, x)
	}
	return false
}

// extend adds a state to a set, if it is greater than all of them.
func extend(set *outcome.Set, x outcome.State) bool {
	n := len(*set)
	if n > 0 && outcome.Compare((*set)[n-1], x) >= 0 {
		return false
	}
	*set = append(*set, x)
	return true
}

// number: the one that a word denotes, if it is not greater than most and written as in reports.
func number(word string, most uint64) (uint64, bool) {
	v, err := strconv.ParseUint(word, 10, 64)
	if err != nil || v > most || strconv.FormatUint(v, 10) != word {
		return 0, false
	}
	return v, true
}
