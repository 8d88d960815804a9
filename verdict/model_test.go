package verdict_test

import (
	"encoding/binary"
	"fmt"
	"math"
	"math/rand"
	"slices"
	"strings"

	"ordeal/api"
	"ordeal/outcome"
	"ordeal/verdict"
)

// numbered is a number as layer 4 encodes it.
func numbered(v uint64) string {
	if v < 0xf8 {
		return string([]byte{byte(v)})
	}
	all := binary.BigEndian.AppendUint64(nil, v)
	for all[0] == 0 {
		all = all[1:]
	}
	return string([]byte{0xf8 + byte(len(all)) - 1}) + string(all)
}

// bytesOf are numbers, one after the other.
func bytesOf(list ...uint64) string {
	var s string
	for _, v := range list {
		s += numbered(v)
	}
	return s
}

// encoded is a verdict as the chapter defines it.
func encoded(v verdict.Verdict) string {
	if v.Why != api.OK {
		return bytesOf(uint64(v.Why), uint64(v.Line))
	}
	list := []uint64{0, uint64(v.N)}
	add := func(first int, set outcome.Set) {
		list = append(list, uint64(first), uint64(len(set)))
		for _, x := range set {
			list = append(list, x.V[:v.N]...)
		}
	}
	if v.HasTso {
		add(v.AskTso+1, v.Tso)
	} else {
		list = append(list, 0)
	}
	add(v.AskRv, v.Rv)
	return bytesOf(list...)
}

// decoder is a second implementation of Read, which leaves at the first error.
type decoder struct {
	rest string
}

// decoded is the verdict of bytes.
func decoded(s string) (v verdict.Verdict, e api.Errno) {
	defer func() {
		if cause, failed := recover().(api.Errno); failed {
			v, e = verdict.Verdict{}, cause
		}
	}()
	d := decoder{rest: s}
	v = d.verdict()
	if d.rest != "" {
		panic(api.ErrForm)
	}
	return v, api.OK
}

// verdict is the next one.
func (d *decoder) verdict() verdict.Verdict {
	if why := d.upTo(17); why != 0 {
		return verdict.Verdict{Why: api.Errno(why), Line: int(d.upTo(2001))}
	}
	var v verdict.Verdict
	v.N = int(d.upTo(40))
	switch kind := d.upTo(3); kind {
	case 0:
	default:
		v.HasTso, v.AskTso = true, int(kind)-1
		v.Tso = d.set(v.N)
	}
	v.AskRv = int(d.upTo(2))
	v.Rv = d.set(v.N)
	return v
}

// set is the next one, of states of n numbers each.
func (d *decoder) set(n int) outcome.Set {
	count := d.number()
	if count > 100000 {
		panic(api.ErrMany)
	}
	var set outcome.Set
	for range count {
		x := outcome.State{N: n}
		for i := range n {
			x.V[i] = d.number()
		}
		set = append(set, x)
	}
	if !set.Good(n) {
		panic(api.ErrForm)
	}
	return set
}

// upTo is the next number, which must not be greater than most.
func (d *decoder) upTo(most uint64) uint64 {
	v := d.number()
	if v > most {
		panic(api.ErrForm)
	}
	return v
}

// number is the next one.
func (d *decoder) number() uint64 {
	if d.rest == "" {
		panic(api.ErrEnd)
	}
	size := max(int(d.rest[0])-0xf8+2, 1)
	if len(d.rest) < size {
		panic(api.ErrEnd)
	}
	s := d.rest[:size]
	v := uint64(s[0])
	if size > 1 {
		v = binary.BigEndian.Uint64([]byte(strings.Repeat("\x00", 9-size) + s[1:]))
	}
	if numbered(v) != s {
		panic(api.ErrForm)
	}
	d.rest = d.rest[size:]
	return v
}

// randomVerdict is one that Read may return.
func randomVerdict(r *rand.Rand) verdict.Verdict {
	if r.Intn(5) == 0 {
		return verdict.Verdict{Why: api.Errno(1 + r.Intn(17)), Line: r.Intn(2002)}
	}
	v := verdict.Verdict{N: r.Intn(6), HasTso: r.Intn(3) > 0, AskRv: r.Intn(3)}
	if r.Intn(10) == 0 {
		v.N = r.Intn(41)
	}
	if v.HasTso {
		v.AskTso = r.Intn(3)
		v.Tso = randomSet(r, v.N)
	}
	v.Rv = randomSet(r, v.N)
	return v
}

// randomSet is one of a few states of n numbers each.
func randomSet(r *rand.Rand, n int) outcome.Set {
	seen := map[outcome.State]bool{}
	for range r.Intn(6) {
		x := outcome.State{N: n}
		for i := range n {
			x.V[i] = []uint64{0, 0, 0, 1, 1, 2, 0xf7, 0xf8, 300, math.MaxUint64, r.Uint64()}[r.Intn(11)]
		}
		seen[x] = true
	}
	return outcome.Of(seen)
}

// bent is an encoding with some changes.
func bent(r *rand.Rand, s string) string {
	b := []byte(s)
	for range 1 + r.Intn(2) {
		at := r.Intn(len(b) + 1)
		switch kind := r.Intn(4); {
		case kind == 0:
			b = slices.Insert(b, at, byte(r.Intn(4)))
		case at == len(b):
		case kind == 1:
			b = slices.Delete(b, at, at+1)
		case kind == 2:
			b[at] = byte(r.Intn(256))
		default:
			b[at] += byte(r.Intn(3)) - 1
		}
	}
	return string(b)
}

// randomText is one of a corpus: of a test, of one with more kinds of instructions, or of something like one.
func randomText(r *rand.Rand) string {
	lines := []string{"init x=0"}
	rare := r.Intn(3) * 3
	events := 0
	for range 2 + r.Intn(2) {
		lines = append(lines, "thread")
		for range 1 + r.Intn(3) {
			line := randomLine(r, rare)
			events += map[string]int{"lo": 1, "st": 1, "lr": 1, "sc": 1, "sw": 2, "am": 2}[line[:2]]
			if events <= 7 {
				lines = append(lines, line)
			}
		}
	}
	ask := "ask"
	for _, atom := range []string{"0:r0=%d", "0:r1=%d", "1:r0=%d", "x=%d", "y=%d"} {
		if r.Intn(5) == 0 {
			ask += " " + fmt.Sprintf(atom, r.Intn(2))
		}
	}
	return strings.Join(append(lines, ask), "\n")
}

// randomLine is one of an instruction, or, rarely, of something like it.
func randomLine(r *rand.Rand, rare int) string {
	reg, loc := fmt.Sprintf("r%d", r.Intn(3)), "xy"[r.Intn(2):][:1]
	value := []string{"1", "1", "2", "18446744073709551615", "r0", "r1"}[r.Intn(6)]
	switch r.Intn(10 + rare) {
	case 0, 1, 2, 3, 4:
		return "load " + reg + " " + loc
	case 5, 6, 7, 8, 9:
		return "store " + loc + " " + value
	case 10:
		return "fence rw rw"
	case 11:
		return "add " + reg + " " + reg + " " + value
	case 12:
		return "swap " + reg + " " + loc + " " + value
	case 13:
		return "amo " + reg + " " + loc + " " + value
	case 14:
		return []string{"lr " + reg + " " + loc, "sc " + reg + " " + loc + " " + value}[r.Intn(2)]
	}
	return []string{"li r0 r0", "load r8 x", "fly", "1x", "beq r0 0 9", "store x", "\xff  "}[r.Intn(7)]
}
