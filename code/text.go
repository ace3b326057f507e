package code

import (
	"strconv"

	"rowlock/api"
	"rowlock/value"
)

// words are those of the operations, in their order.
var words = [...]string{
	"nop", "push", "local", "set", "get", "put", "getat", "putat",
	"add", "sub", "mul", "div", "neg", "less", "same", "not",
	"dup", "pop", "swap", "jump", "zero", "atomic", "end",
	"orelse", "else", "endor", "retry", "out", "halt",
}

// Word is the word of an operation.
func Word(o api.OpCode) string {
	if o > api.LastOp {
		return ""
	}
	return words[o]
}

// ReadWord is the operation of a word.
func ReadWord(s string) (api.OpCode, bool) {
	o, ok := byWord()[s]
	return o, ok
}

// byWord is the operations by their words.
func byWord() map[string]api.OpCode {
	found := make(map[string]api.OpCode, len(words))
	for at, word := range words {
		found[word] = api.OpCode(at)
	}
	return found
}

// Print is an instruction as text.
func Print(i api.Ins) (string, api.Errno) {
	if !Right(i) {
		return "", api.ErrForm
	}
	word := Word(i.Op)
	arg, val := Uses(i.Op)
	switch {
	case arg:
		return word + " " + strconv.Itoa(i.Arg), api.OK
	case val:
		return word + " " + value.Hex(i.Val), api.OK
	}
	return word, api.OK
}

// Parse is the instruction that a text says.
func Parse(s string) (api.Ins, api.Errno) {
	i, ok := said(cut(s))
	if !ok || !Right(i) {
		return api.Ins{}, api.ErrForm
	}
	return i, api.OK
}

// cut is what stands ahead of the first blank, and what behind it; more tells whether there is one, since nothing behind a blank is not the same as no blank.
func cut(s string) (word, rest string, more bool) {
	for at, sign := range s {
		if sign == ' ' {
			return s[:at], s[at+1:], true
		}
	}
	return s, "", false
}

// said is what a word says with what stands behind it, of a right Arg or not.
func said(word, rest string, more bool) (i api.Ins, ok bool) {
	i.Op, ok = ReadWord(word)
	arg, val := Uses(i.Op)
	if !ok || more != (arg || val) {
		return api.Ins{}, false
	}
	if arg {
		i.Arg, ok = number(rest)
	}
	if val {
		var errno api.Errno
		i.Val, errno = value.Parse(rest)
		ok = errno == api.OK
	}
	return i, ok
}

// number is what digits say; false, if they have noughts ahead, or say more than any Arg. It looks at that digit by digit, so that it cannot go round, however many there are.
func number(s string) (n int, ok bool) {
	for at, sign := range s {
		if sign < '0' || sign > '9' || at > 0 && n == 0 {
			return 0, false
		}
		n = 10*n + int(sign-'0')
		if n > lastArg {
			return 0, false
		}
	}
	return n, s != ""
}
