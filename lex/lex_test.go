package lex_test

import (
	"math"
	"math/big"
	"math/rand"
	"reflect"
	"regexp"
	"strings"
	"testing"

	"ordeal/api"
	"ordeal/lex"
)

func word(s string) lex.Token { return lex.Token{Kind: 1, Text: s} }

func num(s string, n uint64) lex.Token { return lex.Token{Kind: 2, Text: s, N: n} }

func sign(s string) lex.Token { return lex.Token{Kind: 3, Text: s} }

// check checks the lines of a text that has no errors.
func check(t *testing.T, s string, want ...lex.Line) {
	t.Helper()
	got, n, e := lex.Lines(s)
	if e != api.OK || n != 0 || len(got) != len(want) || len(got) > 0 && !reflect.DeepEqual(got, want) {
		t.Errorf("Lines(%q): %v, %d, %d, want %v", s, got, n, e, want)
	}
}

// checkError checks that a text is rejected, without lines.
func checkError(t *testing.T, s string, wantLine int, want api.Errno) {
	t.Helper()
	if got, n, e := lex.Lines(s); len(got) != 0 || n != wantLine || e != want {
		t.Errorf("Lines(%.60q): %v, %d, %d, want %d at %d", s, got, n, e, want, wantLine)
	}
}

// at is a line with its number.
func at(n int, tokens ...lex.Token) lex.Line { return lex.Line{N: n, Tokens: tokens} }

// P9.1: the examples of the chapter, and the numbers of the kinds.
func TestExamples(t *testing.T) {
	check(t, "store x 0x10 # a note", at(1, word("store"), word("x"), num("0x10", 16)))
	checkError(t, "load r1, x", 1, api.ErrText)
	checkError(t, "1x", 1, api.ErrText)
	if lex.Word != 1 || lex.Num != 2 || lex.Sign != 3 {
		t.Errorf("Word %d, Num %d, Sign %d", lex.Word, lex.Num, lex.Sign)
	}
}

// P9.1: which letters, digits and signs make a token, which is as long as possible.
func TestTokens(t *testing.T) {
	for _, s := range []string{"a", "z", "az", "r0", "r8", "x1y2", "a0123456789", "x0x1", "thread", strings.Repeat("word0", 400)} {
		check(t, s, at(1, word(s)))
	}
	check(t, "=", at(1, sign("=")))
	check(t, ":", at(1, sign(":")))
	check(t, "=:==", at(1, sign("="), sign(":"), sign("="), sign("=")))
	check(t, "a=1:b", at(1, word("a"), sign("="), num("1", 1), sign(":"), word("b")))
	check(t, "1:r0=0x1f", at(1, num("1", 1), sign(":"), word("r0"), sign("="), num("0x1f", 31)))
	check(t, "a1 1 a 1", at(1, word("a1"), num("1", 1), word("a"), num("1", 1)))
	check(t, "0 x1", at(1, num("0", 0), word("x1")))
}

// P9.1: which numbers there are; leading zeros change nothing.
func TestNumbers(t *testing.T) {
	zeros := strings.Repeat("0", 1000)
	for s, n := range map[string]uint64{
		"0": 0, "9": 9, "00": 0, "007": 7, "10": 10, "0123456789": 123456789, "08": 8,
		"18446744073709551615": math.MaxUint64, "9223372036854775808": 1 << 63, zeros + "18446744073709551615": math.MaxUint64,
		"0x0": 0, "0x9": 9, "0xa": 10, "0xf": 15, "0x0123456789abcdef": 0x0123456789abcdef, "0x00": 0,
		"0xffffffffffffffff": math.MaxUint64, "0x" + zeros + "ffffffffffffffff": math.MaxUint64,
	} {
		check(t, s, at(1, num(s, n)))
		check(t, "x="+s+":", at(1, word("x"), sign("="), num(s, n), sign(":")))
	}
	for _, s := range []string{
		"0x", "0xg", "0x1g", "0xx1", "00x1", "1x1", "1a", "9z", "1e5", "0b1", "0o7", "0a", "0x0x0",
		"18446744073709551616", "99999999999999999999", "20000000000000000000", "100000000000000000000", zeros + "18446744073709551616",
		"0x10000000000000000", "0xfffffffffffffffff", "0x" + zeros + "10000000000000000", "0x 1", "0X1", "0xA", "0xfF", "1_0", "0x_1", "+1", "-1", "1.0",
	} {
		checkError(t, s, 1, api.ErrText)
		checkError(t, "a\n\nx="+s+" # b", 3, api.ErrText)
	}
}

// P9.1: every byte by itself, between words, and behind a word or a number.
func TestBytes(t *testing.T) {
	for c := range 256 {
		b := string([]byte{byte(c)})
		switch {
		case b == " " || b == "\t":
			check(t, b)
			check(t, "a"+b+"b", at(1, word("a"), word("b")))
		case b == "\n":
			check(t, b)
			check(t, "a"+b+"b", at(1, word("a")), at(2, word("b")))
		case b == "\r":
			check(t, b)
			check(t, "a"+b, at(1, word("a")))
			checkError(t, "a"+b+"b", 1, api.ErrText)
		case b == "#":
			check(t, b)
			check(t, "a"+b+"b", at(1, word("a")))
		case b == "=" || b == ":":
			check(t, "a"+b+"b", at(1, word("a"), sign(b), word("b")))
		case strings.Contains("abcdefghijklmnopqrstuvwxyz", b):
			check(t, b, at(1, word(b)))
			check(t, "a"+b+"b", at(1, word("a"+b+"b")))
			checkError(t, "1"+b, 1, api.ErrText)
		case strings.Contains("0123456789", b):
			check(t, b, at(1, num(b, uint64(c-'0'))))
			check(t, "a"+b+"b", at(1, word("a"+b+"b")))
			check(t, "1"+b, at(1, num("1"+b, uint64(10+c-'0'))))
		default:
			for _, s := range []string{b, "a" + b, b + "a", "a " + b + " b", "1" + b, "=" + b} {
				checkError(t, s, 1, api.ErrText)
				checkError(t, "ok\n"+s+"\nok", 2, api.ErrText)
			}
			check(t, "a #"+b, at(1, word("a")))
		}
	}
	for _, s := range []string{"é", "x é", "\u00a0", "\u2003", "１", "\ufeffx", "ſ", "K", "\xc3", "\xff\xfe"} {
		checkError(t, s, 1, api.ErrText)
	}
}

// P9.1: where a line ends, with which number, and where a byte 13 is ignored.
func TestLineEnds(t *testing.T) {
	x, y := word("x"), word("y")
	check(t, "")
	check(t, "\n\n\n")
	check(t, "\r\n\r\n\r")
	check(t, "x", at(1, x))
	check(t, "x\n", at(1, x))
	check(t, "\nx", at(2, x))
	check(t, "x\ny", at(1, x), at(2, y))
	check(t, "x\n\n\ny\n\n", at(1, x), at(4, y))
	check(t, "x\r\n\r\ny\r\n", at(1, x), at(3, y))
	check(t, "x \r\n\ty\r", at(1, x), at(2, y))
	check(t, "x#\r\ny#\r", at(1, x), at(2, y))
	check(t, "x#\r\r#\ny", at(1, x), at(2, y))
	check(t, strings.Repeat("\n", 1999)+"x", at(2000, x))
	for _, s := range []string{"x\r\r", "\r\r", "x\r ", "x\r\t", "\rx", "x\ry", "x\r#", "\r#y", "x \r \n"} {
		checkError(t, s, 1, api.ErrText)
		checkError(t, "\n"+s+"\n", 2, api.ErrText)
	}
}

// P9.1: comments.
func TestComments(t *testing.T) {
	x, y := word("x"), word("y")
	check(t, "#")
	check(t, "# x")
	check(t, "x#y", at(1, x))
	check(t, "x # y # z\ny", at(1, x), at(2, y))
	check(t, "x ## \x00\xff,A,18446744073709551616 0x\ny", at(1, x), at(2, y))
	check(t, "1# 1x", at(1, num("1", 1)))
	checkError(t, ",#", 1, api.ErrText)
	checkError(t, "x # y\nz, # ,", 2, api.ErrText)
}

// P9.1: the first line with an error counts, wherever in it that is.
func TestFirstError(t *testing.T) {
	checkError(t, "ok\n1x\n,", 2, api.ErrText)
	checkError(t, "\n# ,\n\nA", 4, api.ErrText)
	checkError(t, "a b c d ,", 1, api.ErrText)
	checkError(t, strings.Repeat("\n", 1999)+",", 2000, api.ErrText)
}

// P9.1: a text of MaxText bytes is read, a longer one is not, whatever it contains.
func TestLength(t *testing.T) {
	full := strings.Repeat("abcd 123\r\n", 200)
	if lines, n, e := lex.Lines(full); e != api.OK || n != 0 || len(lines) != 200 || lines[199].N != 200 {
		t.Errorf("2000 bytes: %d lines, %d, %d", len(lines), n, e)
	}
	check(t, strings.Repeat(" ", 2000))
	check(t, "#"+strings.Repeat("\xff", 1999))
	checkError(t, strings.Repeat(",", 2000), 1, api.ErrText)
	for _, s := range []string{full + " ", full + "\n", full + ",", strings.Repeat("\n", 2001), strings.Repeat("#", 2001), strings.Repeat(",", 2001), strings.Repeat("a", 1<<20)} {
		checkError(t, s, 0, api.ErrLength)
	}
}

var (
	lineEnd = regexp.MustCompile(`\r?(\n|$)`)
	comment = regexp.MustCompile(`#[^\n]*`)
	token   = regexp.MustCompile(`^(?:([a-z][a-z0-9]*)|([0-9][a-z0-9]*)|([=:]))`)
	valid   = regexp.MustCompile(`^(?:[0-9]+|0x[0-9a-f]+)$`)
)

// lines is Lines, written with regular expressions and big numbers.
func lines(s string) ([]lex.Line, int, api.Errno) {
	if len(s) > 2000 {
		return nil, 0, 17
	}
	var list []lex.Line
	s = comment.ReplaceAllString(lineEnd.ReplaceAllString(s, "$1"), "")
	for i, line := range strings.Split(s, "\n") {
		var tokens []lex.Token
		for line = strings.Trim(line, " \t"); line != ""; line = strings.TrimLeft(line, " \t") {
			m := token.FindStringSubmatch(line)
			if m == nil {
				return nil, i + 1, 10
			}
			next := lex.Token{Text: m[0]}
			for kind := 1; kind <= 3; kind++ {
				if m[kind] != "" {
					next.Kind = kind
				}
			}
			if next.Kind == 2 {
				n := new(big.Int)
				if !valid.MatchString(m[0]) {
					return nil, i + 1, 10
				}
				if digits, isHex := strings.CutPrefix(m[0], "0x"); isHex {
					n.SetString(digits, 16)
				} else {
					n.SetString(digits, 10)
				}
				if !n.IsUint64() {
					return nil, i + 1, 10
				}
				next.N = n.Uint64()
			}
			tokens = append(tokens, next)
			line = line[len(m[0]):]
		}
		if len(tokens) > 0 {
			list = append(list, lex.Line{N: i + 1, Tokens: tokens})
		}
	}
	return list, 0, 0
}

// random is a text of these pieces.
func random(r *rand.Rand, pieces []string) string {
	var b strings.Builder
	for range r.Intn(30) {
		b.WriteString(pieces[r.Intn(len(pieces))])
	}
	return b.String()
}

// P9.1: Lines of random texts, against the regular expressions.
func TestAnyText(t *testing.T) {
	good := []string{" ", " ", "\t", "\n", "\n", "\r\n", "=", ":", "x", "r1", "abc9", " 1", " 0x1f ", " 18446744073709551615 ", "store ", "# no, te\n", " #\r\n"}
	bad := append([]string{"\r", "0", "0x", "1x", "A", ",", "\xff", "é", "\x00", "18446744073709551616", "#", "f"}, good...)
	r := rand.New(rand.NewSource(1))
	seen := map[api.Errno]int{}
	for i := range 100000 {
		s := random(r, good)
		if i%2 == 0 {
			s = random(r, bad)
		}
		got, n, e := lex.Lines(s)
		want, wantN, wantE := lines(s)
		if n != wantN || e != wantE || len(got) != len(want) || len(got) > 0 && !reflect.DeepEqual(got, want) {
			t.Fatalf("Lines(%q): %v, %d, %d, want %v, %d, %d", s, got, n, e, want, wantN, wantE)
		}
		seen[e]++
	}
	if seen[api.OK] < 10000 || seen[api.ErrText] < 10000 {
		t.Errorf("errors seen: %v", seen)
	}
}

// P9.1: any bytes.
func TestAnyBytes(t *testing.T) {
	r := rand.New(rand.NewSource(2))
	for range 20000 {
		b := make([]byte, r.Intn(12))
		r.Read(b)
		got, n, e := lex.Lines(string(b))
		want, wantN, wantE := lines(string(b))
		if n != wantN || e != wantE || len(got) != len(want) || len(got) > 0 && !reflect.DeepEqual(got, want) {
			t.Fatalf("Lines(%q): %v, %d, %d, want %v, %d, %d", b, got, n, e, want, wantN, wantE)
		}
	}
}

// P9.1 (K3): the lines of a result share no memory with each other or with another result.
func TestShares(t *testing.T) {
	s := "a b\nc d"
	got, _, _ := lex.Lines(s)
	_ = append(got[0].Tokens, word("z"))
	got[0].Tokens[1] = word("y")
	if got[1].Tokens[0] != word("c") {
		t.Errorf("lines share tokens: %v", got)
	}
	check(t, s, at(1, word("a"), word("b")), at(2, word("c"), word("d")))
}

// spread writes tokens as lines, with blanks, comments and empty lines wherever they may be.
func spread(r *rand.Rand, list [][]lex.Token) string {
	pick := func(list ...string) string { return list[r.Intn(len(list))] }
	var b strings.Builder
	for _, tokens := range list {
		b.WriteString(pick("", "", "\n", " \t \n", "# note\n", "\r\n", "\n\t# x = 1\r\n"))
		b.WriteString(pick("", " ", "\t"))
		for i, token := range tokens {
			if i > 0 && (token.Kind == 3 || tokens[i-1].Kind == 3) {
				b.WriteString(pick("", " ", "\t\t"))
			} else if i > 0 {
				b.WriteString(pick(" ", "\t", " \t "))
			}
			b.WriteString(token.Text)
		}
		b.WriteString(pick("", " ", "\t ", "#", " # note, \xff", " ## 1x") + pick("\n", "\r\n", "\n\n"))
	}
	return b.String()
}

// P9.2: blanks, comments and empty lines change nothing but line numbers.
func TestBlanks(t *testing.T) {
	r := rand.New(rand.NewSource(3))
	tokens := []lex.Token{word("x"), word("store"), word("r1"), num("0", 0), num("0x1f", 31), num("007", 7), sign("="), sign(":")}
	for range 20000 {
		var list [][]lex.Token
		for range r.Intn(6) {
			var line []lex.Token
			for range 1 + r.Intn(6) {
				line = append(line, tokens[r.Intn(len(tokens))])
			}
			list = append(list, line)
		}
		s := spread(r, list)
		got, n, e := lex.Lines(s)
		if n != 0 || e != api.OK || len(got) != len(list) {
			t.Fatalf("Lines(%q): %v, %d, %d", s, got, n, e)
		}
		for i, line := range got {
			if !reflect.DeepEqual(line.Tokens, list[i]) || i > 0 && line.N <= got[i-1].N {
				t.Fatalf("Lines(%q): %v, want %v", s, line, list[i])
			}
		}
	}
}
