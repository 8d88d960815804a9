package script_test

import (
	"math"
	"math/rand"
	"slices"
	"strconv"
	"strings"
	"testing"

	"ordeal/api"
	"ordeal/script"
)

// same tells whether two lists have the same steps.
func same(a, b []script.Step) bool {
	return slices.EqualFunc(a, b, func(x, y script.Step) bool {
		return x.Kind == y.Kind && x.N == y.N && x.S == y.S && slices.Equal(x.Choice, y.Choice)
	})
}

// parses checks what Parse returns.
func parses(t *testing.T, s string, want []script.Step, line int, e api.Errno) {
	t.Helper()
	l, n, err := script.Parse(s)
	if !same(l, want) || n != line || err != e || e != api.OK && l != nil {
		t.Fatalf("Parse(%q): %v, %d, %d, want %v, %d, %d", s, l, n, err, want, line, e)
	}
}

// P26.1: the line of each kind, and back.
func TestLines(t *testing.T) {
	for _, c := range []struct {
		line string
		step script.Step
	}{
		{`text fly`, script.Step{Kind: 1, S: "fly"}},
		{`text `, script.Step{Kind: 1}},
		{`text  `, script.Step{Kind: 1, S: " "}},
		{`text  a  b `, script.Step{Kind: 1, S: " a  b "}},
		{`text # no remark`, script.Step{Kind: 1, S: "# no remark"}},
		{`text a\nb\\c`, script.Step{Kind: 1, S: "a\nb\\c"}},
		{`text \\n`, script.Step{Kind: 1, S: `\n`}},
		{`text \\\n`, script.Step{Kind: 1, S: "\\\n"}},
		{`text \n\n`, script.Step{Kind: 1, S: "\n\n"}},
		{`text \\\\`, script.Step{Kind: 1, S: `\\`}},
		{`text text all`, script.Step{Kind: 1, S: "text all"}},
		{"text \x00\xff\r\t\x80", script.Step{Kind: 1, S: "\x00\xff\r\t\x80"}},
		{`go 0`, script.Step{Kind: 2}},
		{`go -1`, script.Step{Kind: 2, N: -1}},
		{`go 1000000000`, script.Step{Kind: 2, N: 1000000000}},
		{`all`, script.Step{Kind: 3}},
		{`crash 12`, script.Step{Kind: 4, N: 12}},
		{`crash -1`, script.Step{Kind: 4, N: -1}},
		{`fail 7`, script.Step{Kind: 5, N: 7}},
		{`room 999999999`, script.Step{Kind: 6, N: 999999999}},
		{`restart`, script.Step{Kind: 7}},
		{`restart 3`, script.Step{Kind: 7, Choice: []int{3}}},
		{`restart 0 -1 0 1000000000`, script.Step{Kind: 7, Choice: []int{0, -1, 0, 1000000000}}},
		{`open`, script.Step{Kind: 8}},
		{`query thread\nstore x 1`, script.Step{Kind: 9, S: "thread\nstore x 1"}},
		{`query `, script.Step{Kind: 9}},
		{`report`, script.Step{Kind: 10}},
		{`files`, script.Step{Kind: 11}},
	} {
		want := []script.Step{c.step}
		parses(t, c.line, want, 0, api.OK)
		parses(t, c.line+"\n", want, 0, api.OK)
		if got := script.Format(want); got != c.line+"\n" {
			t.Errorf("Format(%v): %q, want %q", c.step, got, c.line+"\n")
		}
	}
}

// notSteps are lines that are no steps.
var notSteps = []string{
	" ", "fly", " all", "all ", "all 1", "ALL", "al", "alll", "all\r", "\tall", "\x00", "text", "query", "texts a", "text\ta", "Text a", " # remark",
	"go", "go ", "go  1", "go 1 ", "go 1 2", "go x", "go 01", "go 00", "go -0", "go +1", "go -2", "go -01", "go 0x1", "go 1_0", "go 1.0", "go 1e3", "go 1\r", "go ١",
	"go 1000000001", "go 9223372036854775807", "go 9223372036854775808", "go 18446744073709551616", "go -1000000000", "go 10000000000000000000000",
	"crash", "crash x", "crash -2", "crash 1 1", "fail", "fail ", "fail -3", "room", "room 1000000001", "room -5", "room 1,5",
	"restart ", "restart  1", "restart 1 ", "restart 1  2", "restart x", "restart 1 x", "restart 1 -2", "restart 01", "restart 1000000001 1", "restart1",
	"open ", "open 1", "opens", "report ", "report 1", "files ", "files a",
	`text \`, `text \x`, `text a\`, `text \\\`, `text \N`, `text \ n`, `text \0`, `text ok\nbad\t`, `query \`, `query \r`, "text \\\xff",
}

// P26.1: lines that are no steps, wherever they stand: the number of the first of them.
func TestNoSteps(t *testing.T) {
	for _, line := range notSteps {
		if _, ok := parsedLine(line); ok {
			t.Fatalf("%q is a step", line)
		}
		parses(t, line, nil, 1, api.ErrForm)
		parses(t, line+"\nall\n", nil, 1, api.ErrForm)
		parses(t, "all\n"+line, nil, 2, api.ErrForm)
		parses(t, "\n# remark\n\ntext a\\nb\n"+line+"\nfly\n", nil, 5, api.ErrForm)
	}
}

// P26.1: empty lines and remarks are ignored, but counted.
func TestIgnored(t *testing.T) {
	all := script.Step{Kind: script.All}
	for _, c := range []struct {
		s    string
		want int
	}{
		{"", 0}, {"\n", 0}, {"\n\n\n", 0}, {"#", 0}, {"# fly\n#\n##\n\n", 0}, {"#all", 0}, {"all", 1}, {"\nall", 1}, {"all\n\n", 1},
		{"# a\nall\n# b\n\nall\n#", 2}, {"all\n#\\x\nall", 2}, {strings.Repeat("\n#\n", 500) + "all\n", 1},
	} {
		parses(t, c.s, slices.Repeat([]script.Step{all}, c.want), 0, api.OK)
		parses(t, c.s+"\nfly", nil, strings.Count(c.s, "\n")+2, api.ErrForm)
	}
}

// P26.1: up to 200 steps; the line of the next one, unless any line is no step.
func TestMany(t *testing.T) {
	line := func(n int) string { return strings.Repeat("go 7\n", n) }
	steps := func(n int) []script.Step { return slices.Repeat([]script.Step{{Kind: script.Go, N: 7}}, n) }
	parses(t, line(199), steps(199), 0, api.OK)
	parses(t, line(200), steps(200), 0, api.OK)
	parses(t, line(200)+"\n# remark\n\n", steps(200), 0, api.OK)
	parses(t, "#\n"+line(100)+"\n#\n"+line(100), steps(200), 0, api.OK)
	parses(t, line(201), nil, 201, api.ErrMany)
	parses(t, line(1000), nil, 201, api.ErrMany)
	parses(t, "\n#\n"+line(200)+"\n#\n\nall\nall", nil, 206, api.ErrMany)
	parses(t, line(200)+"fly\n"+line(1), nil, 201, api.ErrForm)
	parses(t, line(201)+"fly", nil, 202, api.ErrForm)
	parses(t, line(500)+"fly\ngo", nil, 501, api.ErrForm)
}

// P26.1: a step of no kind has no line; what is no field of a kind is not written.
func TestFormatKinds(t *testing.T) {
	full := func(kind int) script.Step { return script.Step{Kind: kind, N: 5, S: "a\nb", Choice: []int{1, 2}} }
	var l []script.Step
	for _, kind := range []int{math.MinInt, -7, -1, 0, 1, 2, 3, 4, 5, 6, 7, 8, 9, 10, 11, 12, 13, 100, math.MaxInt} {
		l = append(l, full(kind))
		if got := script.Format(l[len(l)-1:]); (kind < 1 || kind > 11) && got != "" {
			t.Errorf("kind %d: %q", kind, got)
		}
	}
	want := "text a\\nb\ngo 5\nall\ncrash 5\nfail 5\nroom 5\nrestart 1 2\nopen\nquery a\\nb\nreport\nfiles\n"
	if got := script.Format(l); got != want {
		t.Errorf("%q", got)
	}
	if script.Format(nil) != "" || script.Format([]script.Step{}) != "" {
		t.Error("no steps")
	}
	// Of these the lines are no steps; they are written as they are.
	for _, n := range []int{-2, 1000000001, math.MinInt, math.MaxInt} {
		want := strconv.Itoa(n) + "\n"
		got := script.Format([]script.Step{{Kind: script.Go, N: n}, {Kind: script.Restart, Choice: []int{n}}})
		if got != "go "+want+"restart "+want {
			t.Errorf("%d: %q", n, got)
		}
	}
}

// P26.1: Parse inverts Format, for any steps of up to 200 lines.
func TestInverse(t *testing.T) {
	for seed := range int64(3000) {
		r := rand.New(rand.NewSource(seed))
		l := randomSteps(r, 200)
		s := script.Format(l)
		parses(t, s, l, 0, api.OK)
		if got, _, _ := script.Parse(s); script.Format(got) != s {
			t.Fatalf("%q", s)
		}
		if strings.Count(s, "\n") != len(l) {
			t.Fatalf("%d lines of %d steps", strings.Count(s, "\n"), len(l))
		}
	}
}

// bent is a script with some bytes changed, added or removed.
func bent(r *rand.Rand, s string) string {
	b := []byte(s)
	bytes := "\n\n# \\nx0195-+atg\x00\xff\r"
	for range r.Intn(4) {
		at := r.Intn(len(b) + 1)
		c := bytes[r.Intn(len(bytes))]
		switch r.Intn(3) {
		case 0:
			b = slices.Insert(b, at, c)
		case 1:
			b = slices.Delete(b, at, min(at+1+r.Intn(3), len(b)))
		default:
			b = append(b[:at:at], append([]byte{c}, b[min(at+1, len(b)):]...)...)
		}
	}
	return string(b)
}

// P26.1: Parse by a second implementation, for scripts that are bent somewhere.
func TestBent(t *testing.T) {
	good, form, many := 0, 0, 0
	for seed := range int64(20000) {
		r := rand.New(rand.NewSource(seed))
		s := script.Format(randomSteps(r, []int{3, 10, 210}[r.Intn(3)]))
		if r.Intn(3) > 0 {
			s = bent(r, s)
		}
		want, line, e := parsed(s)
		parses(t, s, want, line, e)
		switch e {
		case api.OK:
			good++
		case api.ErrForm:
			form++
		case api.ErrMany:
			many++
		}
	}
	if good < 4000 || form < 4000 || many < 100 {
		t.Errorf("%d scripts, %d with a line that is no step, %d with too many", good, form, many)
	}
}

// P26.1: the steps of a script share no memory; Format changes nothing.
func TestChoices(t *testing.T) {
	s := "restart 1 2\nrestart 3 4\n"
	l, _, _ := script.Parse(s)
	other, _, _ := script.Parse(s)
	_ = append(l[0].Choice, 8)
	l[0].Choice[1] = 9
	if !slices.Equal(l[1].Choice, []int{3, 4}) || !slices.Equal(other[0].Choice, []int{1, 2}) {
		t.Errorf("%v, %v", l, other)
	}
	full := []int{1, 2, 3}
	if script.Format([]script.Step{{Kind: script.Restart, Choice: full[:1]}}) != "restart 1\n" || !slices.Equal(full, []int{1, 2, 3}) {
		t.Errorf("%v", full)
	}
}
