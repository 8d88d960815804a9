package disk_test

import (
	"maps"
	"slices"

	"ordeal/api"
)

// model is a slow disk, written from the chapter: it keeps the names before and after every change that is not safe.
type model struct {
	names   []map[string]int // the safe ones, and those after each change since then
	text    []string         // of every file that there has ever been
	safe    []int            // how many bytes of it are safe
	room    int
	crash   int
	failure int
	dead    bool
	calls   int
}

func newModel(room int) *model {
	return &model{names: []map[string]int{{}}, room: max(room, 0), crash: -1, failure: -1}
}

// now: the current names.
func (m *model) now() map[string]int {
	return m.names[len(m.names)-1]
}

// change adds the names after one more change.
func (m *model) change(do func(names map[string]int)) {
	names := maps.Clone(m.now())
	do(names)
	m.names = append(m.names, names)
}

// free looks at every file that has a name anywhere.
func (m *model) free() int {
	seen := map[int]bool{}
	used := 0
	for _, names := range m.names {
		for _, f := range names {
			if !seen[f] {
				seen[f] = true
				used += len(m.text[f])
			}
		}
	}
	return max(m.room-used, 0)
}

// call ends a call with the first error before ErrIO, or with what is armed; otherwise the effect takes place.
func (m *model) call(before api.Errno, effect, onlyAlive func()) api.Errno {
	switch {
	case m.dead:
		return api.ErrDead
	case before != api.OK:
		return before
	case m.failure == 0:
		m.failure = -1
		return api.ErrIO
	case m.crash == 0:
		m.dead = true
		effect()
		return api.ErrDead
	}
	m.failure = max(m.failure-1, -1)
	m.crash = max(m.crash-1, -1)
	m.calls++
	effect()
	onlyAlive()
	return api.OK
}

func nothing() {}

// has: ErrNone, if no file has the name.
func (m *model) has(name string) api.Errno {
	if _, ok := m.now()[name]; ok {
		return api.OK
	}
	return api.ErrNone
}

func (m *model) create(name string) api.Errno {
	before := api.OK
	if name == "" {
		before = api.ErrArg
	} else if m.has(name) == api.OK {
		before = api.ErrThere
	}
	return m.call(before, func() {
		m.text = append(m.text, "")
		m.safe = append(m.safe, 0)
		m.change(func(names map[string]int) { names[name] = len(m.text) - 1 })
	}, nothing)
}

func (m *model) add(name, s string) api.Errno {
	before := m.has(name)
	if before == api.OK && len(s) > m.free() {
		before = api.ErrFull
	}
	return m.call(before, func() { m.text[m.now()[name]] += s }, nothing)
}

func (m *model) sync(name string) api.Errno {
	return m.call(m.has(name), nothing, func() {
		f := m.now()[name]
		m.safe[f] = len(m.text[f])
	})
}

func (m *model) syncNames() api.Errno {
	return m.call(api.OK, nothing, func() { m.names = m.names[len(m.names)-1:] })
}

func (m *model) rename(from, to string) api.Errno {
	before := m.has(from)
	if before == api.OK && (to == "" || to == from) {
		before = api.ErrArg
	}
	return m.call(before, func() {
		m.change(func(names map[string]int) {
			names[to] = names[from]
			delete(names, from)
		})
	}, nothing)
}

func (m *model) remove(name string) api.Errno {
	return m.call(m.has(name), func() {
		m.change(func(names map[string]int) { delete(names, name) })
	}, nothing)
}

func (m *model) read(name string) (string, api.Errno) {
	if m.dead {
		return "", api.ErrDead
	}
	if m.has(name) != api.OK {
		return "", api.ErrNone
	}
	return m.text[m.now()[name]], api.OK
}

func (m *model) list() ([]string, api.Errno) {
	if m.dead {
		return nil, api.ErrDead
	}
	return slices.Sorted(maps.Keys(m.now())), api.OK
}

// reduced is the number from 0 to most that n is modulo one more than most.
func reduced(n, most int) int {
	return (n%(most+1) + most + 1) % (most + 1)
}

func (m *model) restart(choice []int) {
	next := func(most int) int {
		if len(choice) == 0 {
			return 0
		}
		n := choice[0]
		choice = choice[1:]
		return reduced(n, most)
	}
	n := next(len(m.names) - 1)
	m.names = m.names[n : n+1]
	left := slices.Sorted(maps.Values(m.now()))
	for _, f := range left {
		if rest := len(m.text[f]) - m.safe[f]; rest > 0 {
			m.text[f] = m.text[f][:m.safe[f]+next(rest)]
		}
		m.safe[f] = len(m.text[f])
	}
	m.crash, m.failure, m.dead = -1, -1, false
}

func (m *model) safeFiles() ([]string, []string) {
	names := slices.Sorted(maps.Keys(m.names[0]))
	var texts []string
	for _, name := range names {
		f := m.names[0][name]
		texts = append(texts, m.text[f][:m.safe[f]])
	}
	return names, texts
}
