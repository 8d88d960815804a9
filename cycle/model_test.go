package cycle_test

import (
	"fmt"
	"math/rand"
	"slices"
	"strings"

	"ordeal/api"
	"ordeal/cycle"
)

// The words of all edges, in the order of their kinds.
const (
	outerWords = "rfe fre coe"
	fenceWords = "fence-rr fence-rw fence-wr fence-ww"
	allWords   = outerWords + " po-rr po-rw po-wr po-ww " + fenceWords + " place-rr place-rw value-rw path-rw"
)

// kindOf, sourceOf and targetOf: what the word of an edge says.
func kindOf(word string) int {
	name, _, _ := strings.Cut(word, "-")
	return 1 + slices.Index([]string{"rfe", "fre", "coe", "po", "fence", "place", "value", "path"}, name)
}

func sourceOf(word string) byte {
	switch word {
	case "rfe", "coe":
		return 'w'
	case "fre":
		return 'r'
	}
	return word[len(word)-2]
}

func targetOf(word string) byte {
	switch word {
	case "rfe":
		return 'r'
	case "fre", "coe":
		return 'w'
	}
	return word[len(word)-1]
}

func isOuter(word string) bool {
	return slices.Contains(strings.Fields(outerWords), word)
}

// edgeOf is the edge of a word.
func edgeOf(word string) cycle.Edge {
	number := func(c byte) int { return map[byte]int{'r': 1, 'w': 2}[c] }
	return cycle.Edge{Kind: kindOf(word), From: number(sourceOf(word)), To: number(targetOf(word))}
}

// edgesOf is the edges of words.
func edgesOf(words []string) []cycle.Edge {
	var l []cycle.Edge
	for _, word := range words {
		l = append(l, edgeOf(word))
	}
	return l
}

// fault is Check, written from the chapter as one list of faults in their order, of which the first counts; an edge without a word is invalid.
func fault(words []string) api.Errno {
	outer, broken := 0, false
	for i, word := range words {
		next := words[(i+1)%len(words)]
		if word == "" || next == "" || targetOf(word) != sourceOf(next) {
			broken = true
		} else if isOuter(word) {
			outer++
		}
	}
	switch {
	case len(words) > 8:
		return api.ErrMany
	case broken:
		return api.ErrOrder
	case outer < 2, len(words)-outer < 2:
		return api.ErrEmpty
	case outer > 4:
		return api.ErrMany
	}
	return api.OK
}

// modelled is the canonical text of the test of a cycle, or "" if it has too much of something. Each event looks back at those before it, where Make counts on.
func modelled(words []string) string {
	words = slices.Clone(words)
	for !isOuter(words[len(words)-1]) {
		words = append(words[1:], words[0])
	}
	m := model{words: words}
	var texts, asks, ends []string
	for thread := range m.threads(len(words)) {
		lines := []string{"thread"}
		for i := range words {
			if m.threads(i) == thread {
				lines = append(lines, m.lines(i)...)
			}
			if m.threads(i) == thread && m.isLoad(i) {
				asks = append(asks, fmt.Sprintf("%d:r%d=%d", thread, m.loads(i), m.value(i)))
			}
		}
		if len(lines) > 9 {
			return ""
		}
		texts = append(texts, strings.Join(lines, "\n")+"\n")
	}
	var inits []string
	for loc := range m.inner(len(words)) {
		inits = append(inits, fmt.Sprintf("%c=0", "abcdefgh"[loc]))
		stores := 0
		for i := range words {
			if m.loc(i) == loc && !m.isLoad(i) {
				stores++
			}
		}
		if stores > 2 {
			return ""
		}
		if stores == 2 {
			ends = append(ends, fmt.Sprintf("%c=2", "abcdefgh"[loc]))
		}
	}
	text := "init " + strings.Join(inits, " ") + "\n" + strings.Join(texts, "")
	if asked := append(asks, ends...); len(asked) > 0 {
		text += "ask " + strings.Join(asked, " ") + "\n"
	}
	return text
}

// model is a cycle whose last edge is outer; event i is the source of word i.
type model struct {
	words []string
}

// threads and inner: how many of the edges before event i are outer, and how many are inner.
func (m model) threads(i int) int {
	n := 0
	for _, word := range m.words[:i] {
		if isOuter(word) {
			n++
		}
	}
	return n
}

func (m model) inner(i int) int {
	return i - m.threads(i)
}

func (m model) loc(i int) int {
	return m.inner(i) % m.inner(len(m.words))
}

func (m model) isLoad(i int) bool {
	return sourceOf(m.words[i]) == 'r'
}

// loads: how many loads its thread has before event i.
func (m model) loads(i int) int {
	n := 0
	for j := range i {
		if m.threads(j) == m.threads(i) && m.isLoad(j) {
			n++
		}
	}
	return n
}

// value: how many stores there are from event i back to the one that an inner edge leads to.
func (m model) value(i int) int {
	n := 0
	for {
		if !m.isLoad(i) {
			n++
		}
		i = (i + len(m.words) - 1) % len(m.words)
		if !isOuter(m.words[i]) {
			return n
		}
	}
}

// lines are those of event i, with what stands before it.
func (m model) lines(i int) []string {
	before := m.words[(i+len(m.words)-1)%len(m.words)]
	last := m.loads(i) - 1
	end, content := "", fmt.Sprint(m.value(i))
	var lines []string
	switch kindOf(before) {
	case cycle.Fence:
		lines = []string{"fence rw rw"}
	case cycle.Place:
		end = fmt.Sprintf(" dep r%d", last)
	case cycle.Value:
		lines = []string{fmt.Sprintf("xor r7 r%d r%d", last, last), "or r7 r7 " + content}
		content = "r7"
	case cycle.Path:
		lines = []string{fmt.Sprintf("beq r%d r%d 0", last, last)}
	}
	loc := string("abcdefgh"[m.loc(i)])
	if m.isLoad(i) {
		return append(lines, fmt.Sprintf("load r%d %s%s", m.loads(i), loc, end))
	}
	return append(lines, "store "+loc+" "+content+end)
}

// eachCycle visits all sequences of n of these words of which each one's target is the next one's source, and the last one's the first one's.
func eachCycle(words string, n int, visit func(l []string)) {
	var l []string
	var extend func()
	extend = func() {
		if len(l) == n {
			if targetOf(l[n-1]) == sourceOf(l[0]) {
				visit(l)
			}
			return
		}
		for word := range strings.FieldsSeq(words) {
			if len(l) == 0 || targetOf(l[len(l)-1]) == sourceOf(word) {
				l = append(l, word)
				extend()
				l = l[:len(l)-1]
			}
		}
	}
	extend()
}

// random is n words of which each one's target is the next one's source, and mostly the last one's the first one's.
func random(r *rand.Rand, words string, n int) []string {
	all := strings.Fields(words)
	var l []string
	for len(l) < n {
		word := all[r.Intn(len(all))]
		fits := len(l) == 0 || targetOf(l[len(l)-1]) == sourceOf(word)
		closes := len(l) < n-1 || targetOf(word) == sourceOf(append(l, word)[0])
		if fits && (closes || r.Intn(40) == 0) {
			l = append(l, word)
		}
	}
	return l
}
