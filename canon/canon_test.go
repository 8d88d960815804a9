package canon_test

import (
	"crypto/sha256"
	"fmt"
	"math"
	"math/rand"
	"strings"
	"testing"

	"ordeal/api"
	"ordeal/canon"
	"ordeal/litmus"
	"ordeal/read"
)

func reg(n uint64) litmus.Arg { return litmus.Arg{Reg: true, N: n} }

// checkSource checks the canonical source of a text, and its Item.
func checkSource(t *testing.T, s, want string) {
	t.Helper()
	x := canon.Of(s)
	if got := canon.Print(&x.Test); x.Why != api.OK || x.Line != 0 || got != want {
		t.Errorf("%q: %q, %d at %d, want %q", s, got, x.Why, x.Line, want)
	}
	if x.Key != api.Hash(sha256.Sum256([]byte("test\n"+want))) {
		t.Errorf("%q: wrong key", s)
	}
}

// checkRejected checks the Item of a text that is not a test.
func checkRejected(t *testing.T, s string, wantLine int, want api.Errno) {
	t.Helper()
	x := canon.Of(s)
	if x.Why != want || x.Line != wantLine || !same(x.Test, litmus.Test{}) {
		t.Errorf("%q: %+v, %d at %d, want %d at %d", s, x.Test, x.Why, x.Line, want, wantLine)
	}
	if x.Key != api.Hash(sha256.Sum256([]byte("rejected\n"+s))) {
		t.Errorf("%q: wrong key", s)
	}
}

// P11.1: the example of the chapter.
func TestExample(t *testing.T) {
	checkSource(t, " thread\n store  x 0x1", "init x=0\nthread\nstore x 1\n")
}

// P11.1: which lines there are, in which order.
func TestLines(t *testing.T) {
	checkSource(t, "thread", "thread\n")
	checkSource(t, "init\nthread\nask", "thread\n")
	checkSource(t, "thread\nthread\n\nthread # note\n thread", "thread\nthread\nthread\nthread\n")
	checkSource(t, "init z=0\nthread", "init z=0\nthread\n")
	checkSource(t, "init z=5 b=007\ninit a=0xa\nthread\nload r0 c", "init a=10 b=7 c=0 z=5\nthread\nload r0 c\n")
	checkSource(t, "thread\nli r1 2\nask 0:r1=0x10", "thread\nli r1 2\nask 0:r1=16\n")
	checkSource(t, "thread\nask y=1\nask x=2 0:r7=03", "init x=0 y=0\nthread\nask 0:r7=3 x=2 y=1\n")
	checkSource(t, "init x=18446744073709551615\nthread\nthread\nli r0 0xffffffffffffffff\nask x=18446744073709551615 1:r0=18446744073709551615", "init x=18446744073709551615\nthread\nthread\nli r0 18446744073709551615\nask 1:r0=18446744073709551615 x=18446744073709551615\n")
}

// P11.1: every instruction, with all that may follow it; it is its own canonical form.
func TestInstructions(t *testing.T) {
	list := strings.Fields("add sub xor and or shl shr")
	for i, mnemonic := range list {
		list[i] = mnemonic + " r1 r2 3"
		list = append(list, mnemonic+" r7 18446744073709551615 r0")
	}
	list = append(list, "li r0 0", "li r7 18446744073709551615", "beq r1 2 0", "beq 3 r4 2", "bne r1 2 1", "bne 0 0 2")
	for _, sides := range strings.Fields("r:r r:w r:rw w:r w:w w:rw rw:r rw:w rw:rw") {
		list = append(list, "fence "+strings.ReplaceAll(sides, ":", " "))
	}
	for _, access := range []string{"load r1 x", "lr r2 x"} {
		list = append(list, access, access+" acq", access+" dep r0", access+" acq dep r7")
	}
	for _, access := range []string{"store x 1", "store x r5", "sc r3 x 1", "sc r0 x r6"} {
		list = append(list, access, access+" rel", access+" dep r0", access+" rel dep r7")
	}
	for _, access := range []string{"swap r1 x r2", "amo r3 x 4"} {
		for _, after := range []string{"", " acq", " rel", " acq rel"} {
			list = append(list, access+after, access+after+" dep r3")
		}
	}
	for _, line := range list {
		s := "init x=0\nthread\n" + line + "\nli r1 1\nfence r w\nask 0:r1=1\n"
		checkSource(t, s, s)
		checkSource(t, strings.ReplaceAll(s, " ", "\t "), s)
	}
}

// P11.1: words that are no names elsewhere may be those of locations.
func TestNames(t *testing.T) {
	s := "init acq=1 ask=2 dep=0 init=0 rel=0 rw=4 thread=5 w=0\nthread\nload r0 acq acq dep r1\nstore dep 1 rel dep r2\nsc r1 rel r2 rel\nask rw=1 w=2\n"
	checkSource(t, s, s)
}

// P11.1: Atom, for registers and locations.
func TestAtom(t *testing.T) {
	x := litmus.Test{Locs: []litmus.Init{{Name: "a", V: 1}, {Name: "lock", V: 2}}, Threads: make([][]litmus.Instr, 4)}
	for want, a := range map[string]litmus.Atom{
		"0:r0=0":                    {},
		"3:r7=18446744073709551615": {Thread: 3, At: 7, V: math.MaxUint64},
		"1:r2=3":                    {Thread: 1, At: 2, V: 3},
		"a=0":                       {Thread: -1},
		"lock=10":                   {Thread: -1, At: 1, V: 10},
	} {
		if got := canon.Atom(&x, a); got != want {
			t.Errorf("%+v: %q, want %q", a, got, want)
		}
	}
}

// P11.1: a text that is not a test has its line and its error, and a key that depends on each of its bytes.
func TestRejected(t *testing.T) {
	checkRejected(t, "fly", 1, api.ErrText)
	checkRejected(t, " fly", 1, api.ErrText)
	checkRejected(t, "fly\n", 1, api.ErrText)
	checkRejected(t, "thread\n\nload r8 x", 3, api.ErrName)
	checkRejected(t, "thread\nask x=1\nthread", 3, api.ErrOrder)
	checkRejected(t, "init x=1 x=1\nthread", 1, api.ErrTwice)
	checkRejected(t, "thread\n\xff\x00", 2, api.ErrText)
	checkRejected(t, "", 0, api.ErrEmpty)
	checkRejected(t, "init x=1", 0, api.ErrEmpty)
	checkRejected(t, strings.Repeat("thread\n", 5), 0, api.ErrMany)
	checkRejected(t, "thread\nbeq 0 0 1", 0, api.ErrSkip)
	checkRejected(t, "thread"+strings.Repeat(" ", 1995), 0, api.ErrLength)
	checkRejected(t, strings.Repeat("\xfe", 100000), 0, api.ErrLength)
	checkSource(t, "thread"+strings.Repeat(" ", 1994), "thread\n")
	if canon.Of("fly").Key == canon.Of("fly ").Key {
		t.Error("two rejected texts with the same key")
	}
}

// long is a valid text, from which a test with a long canonical source is parsed: it has no initial values, and its numbers are hexadecimal.
func long() string {
	s, asks := "", "ask"
	for thread := range 4 {
		s += "thread\n" + strings.Repeat("add r1 0xffffffffffffffff 0xffffffffffffffff\n", 8)
		for at := range 8 {
			asks += fmt.Sprintf(" %d:r%d=0", thread, at)
		}
	}
	for _, c := range "abcdefgh" {
		asks += " " + strings.Repeat(string(c), 16) + "=0"
	}
	return s + asks + "\n"
}

// P11.1 and P11.2: a canonical source may be too long for a text; it is complete nevertheless.
func TestLong(t *testing.T) {
	inits := "init"
	for _, c := range "abcdefgh" {
		inits += " " + strings.Repeat(string(c), 16) + "=0"
	}
	s := long()
	want := inits + "\n" + strings.ReplaceAll(s, "0xffffffffffffffff", "18446744073709551615")
	if len(s) > api.MaxText || len(want) <= api.MaxText {
		t.Fatalf("%d and %d bytes", len(s), len(want))
	}
	checkSource(t, s, want)
	checkRejected(t, want, 0, api.ErrLength)
}

// P11.2: the canonical source of any test is as the chapter says, and is parsed as that test.
func TestRandom(t *testing.T) {
	r := rand.New(rand.NewSource(1))
	for range 20000 {
		x := random(r)
		before := copied(x)
		s := canon.Print(&x)
		if s != printed(x) || s != canon.Print(&x) || !same(x, before) {
			t.Fatalf("%+v: %q, want %q", x, s, printed(x))
		}
		for _, a := range x.Asks {
			if got := canon.Atom(&x, a); got != asked(x, a) {
				t.Fatalf("%+v: %q", a, got)
			}
		}
		if len(s) > api.MaxText {
			continue
		}
		if y, n, e := read.Parse(s); e != api.OK || !same(x, y) {
			t.Fatalf("%q: %+v, %d at %d", s, y, e, n)
		}
		checkSource(t, s, s)
	}
}

// P11.1 and P11.2: all texts of a test have its canonical source and its key.
func TestTextsOfOneTest(t *testing.T) {
	r := rand.New(rand.NewSource(2))
	for range 10000 {
		x := random(r)
		if s := loose(r, x); len(s) <= api.MaxText {
			checkSource(t, s, printed(x))
		}
	}
}

// P11.2: tests that differ, in as little as one field, have different sources and keys.
func TestTestsDiffer(t *testing.T) {
	r := rand.New(rand.NewSource(3))
	for range 50000 {
		x := random(r)
		y := changed(r, x)
		if y.Check() != api.OK {
			continue
		}
		a, b := canon.Print(&x), canon.Print(&y)
		if (a == b) != same(x, y) {
			t.Fatalf("%+v and %+v: %q and %q", x, y, a, b)
		}
		if max(len(a), len(b)) <= api.MaxText && (canon.Of(a).Key == canon.Of(b).Key) != (a == b) {
			t.Fatalf("%q and %q: wrong keys", a, b)
		}
	}
}

// P11.1, K3 and K4: an Item belongs to the caller, and the same text has the same one again.
func TestItemsShareNothing(t *testing.T) {
	const s = "thread\nstore x 1\nask x=1"
	x := canon.Of(s)
	x.Test.Locs[0].V, x.Test.Threads[0][0].A, x.Test.Asks[0].V = 9, reg(3), 9
	checkSource(t, s, "init x=0\nthread\nstore x 1\nask x=1\n")
}

// P11.1 and K7: any bytes are accepted, and the Item is that of the parser.
func TestAnyBytes(t *testing.T) {
	r := rand.New(rand.NewSource(4))
	pieces := []string{"thread", "init", "ask", "store", "load", " ", " ", " ", "\n", "\n", "x", "y", "r0", "r9", "=", ":", "0", "1", "0x", "#", "\r", "\xff", "\x00", "A"}
	for range 20000 {
		s := "thread\n"
		for range r.Intn(12) {
			s += pieces[r.Intn(len(pieces))]
		}
		s = s[r.Intn(2)*r.Intn(len(s)):]
		x, n, e := read.Parse(s)
		if e != api.OK {
			checkRejected(t, s, n, e)
			continue
		}
		checkSource(t, s, printed(x))
	}
}

// K7: an invalid test and an atom of another test do no harm.
func TestInvalid(t *testing.T) {
	for op := -2; op < 20; op++ {
		for _, n := range []int{math.MinInt, -1, 9, math.MaxInt} {
			bad := litmus.Instr{Op: op, Rd: n, Loc: n, A: reg(uint64(n)), B: reg(uint64(n)), Dep: n, Pred: n, Succ: n, Skip: n}
			x := litmus.Test{Threads: [][]litmus.Instr{{bad}}, Asks: []litmus.Atom{{Thread: n, At: n}}}
			if s := canon.Print(&x); s != "" {
				t.Errorf("%+v: %q", x, s)
			}
			for _, thread := range []int{math.MinInt, -1, 0, 9, math.MaxInt} {
				canon.Atom(&x, litmus.Atom{Thread: thread, At: n})
			}
		}
	}
	var none litmus.Test
	if s := canon.Print(&none); s != "" {
		t.Errorf("no threads: %q", s)
	}
}
