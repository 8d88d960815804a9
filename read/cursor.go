package read

import (
	"slices"

	"ordeal/api"
	"ordeal/lex"
	"ordeal/litmus"
)

// cursor reads the tokens of a line from left to right. The first error persists, and leaves no tokens.
type cursor struct {
	rest []lex.Token
	err  api.Errno
}

// fail sets the error to e, if there is none yet.
func (c *cursor) fail(e api.Errno) {
	if c.err == api.OK {
		c.err = e
	}
	c.rest = nil
}

// more: whether there is another token.
func (c *cursor) more() bool {
	return len(c.rest) > 0
}

// peek: the next token, which stays; if there is none, one without a kind.
func (c *cursor) peek() lex.Token {
	if !c.more() {
		return lex.Token{}
	}
	return c.rest[0]
}

// take: the next token, which must be of a kind.
func (c *cursor) take(kind int) lex.Token {
	token := c.peek()
	if token.Kind != kind {
		c.fail(api.ErrText)
		return lex.Token{}
	}
	c.rest = c.rest[1:]
	return token
}

// accept takes the next token if it is a certain word.
func (c *cursor) accept(word string) bool {
	if c.peek().Text != word {
		return false
	}
	c.rest = c.rest[1:]
	return true
}

// end: nothing may follow.
func (c *cursor) end() {
	if c.more() {
		c.fail(api.ErrText)
	}
}

// word: the next token, a word.
func (c *cursor) word() string {
	return c.take(lex.Word).Text
}

// number: the next token, a number.
func (c *cursor) number() uint64 {
	return c.take(lex.Num).N
}

// upTo: the next token, a number; a greater one than most counts as most.
func (c *cursor) upTo(most int) int {
	return int(min(c.number(), uint64(most)))
}

// sign: the next token, a certain sign.
func (c *cursor) sign(want string) {
	if c.take(lex.Sign).Text != want {
		c.fail(api.ErrText)
	}
}

// value: the next two tokens, = and a number.
func (c *cursor) value() uint64 {
	c.sign("=")
	return c.number()
}

// register: the next token, a register.
func (c *cursor) register() int {
	s := c.word()
	if len(s) != 2 || s[0] != 'r' || s[1] < '0' || s[1] > '9' {
		c.fail(api.ErrText)
		return 0
	}
	n := int(s[1] - '0')
	if n >= api.MaxRegs {
		c.fail(api.ErrName)
		return 0
	}
	return n
}

// arg: the next token, a register or a number.
func (c *cursor) arg() litmus.Arg {
	if c.peek().Kind == lex.Num {
		return litmus.Arg{N: c.number()}
	}
	return litmus.Arg{Reg: true, N: uint64(c.register())}
}

// name: the next token, the name of a location.
func (c *cursor) name() string {
	s := c.word()
	if !litmus.Name(s) {
		c.fail(api.ErrName)
	}
	return s
}

// side: the next token, a side of a fence.
func (c *cursor) side() int {
	names := []string{litmus.Reads: "r", litmus.Writes: "w", litmus.Reads | litmus.Writes: "rw"}
	side := slices.Index(names, c.word())
	if side <= 0 {
		c.fail(api.ErrText)
		return 0
	}
	return side
}
