package asm

import (
	"strings"

	"rowlock/api"
	"rowlock/code"
	"rowlock/value"
)

// longest is how many letters a label may have; farthest is how far from 0 a whole number may be.
const (
	longest  = 8
	farthest = 9999
)

// Lines are a text's lines, without remarks, and without blanks around them.
func Lines(text string) []string {
	var l []string
	from := 0
	for at, sign := range text {
		if sign == '\n' {
			l = append(l, bare(text[from:at]))
			from = at + 1
		}
	}
	return append(l, bare(text[from:]))
}

// bare is a line without its remark, and without blanks around it.
func bare(line string) string {
	for at, sign := range line {
		if sign == '#' {
			line = line[:at]
			break
		}
	}
	return strings.Clone(strings.Trim(line, " "))
}

// saying is what a line says: an instruction, with the label that it goes on to, if it has one; or the label of the next one.
type saying struct {
	ins    api.Ins
	target string
	label  string
}

// read is what the words of a line say; false, if they say nothing.
func read(words []string) (s saying, ok bool) {
	if name, found := strings.CutSuffix(words[0], ":"); found {
		return saying{label: name}, len(words) == 1 && isLabel(name)
	}
	s.ins.Op, ok = code.ReadWord(words[0])
	switch {
	case !ok:
		return saying{}, false
	case opens(s.ins.Op):
		return s, len(words) == 1
	case isJump(s.ins.Op):
		s.target = words[len(words)-1]
		return s, len(words) == 2 && isLabel(s.target)
	case s.ins.Op == api.Push:
		s.ins.Val, ok = number(words[len(words)-1])
		return s, len(words) == 2 && ok
	}
	i, errno := code.Parse(strings.Join(words, " "))
	return saying{ins: i}, errno == api.OK
}

// isLabel tells whether a word is a label.
func isLabel(word string) bool {
	for _, sign := range word {
		if sign < 'a' || sign > 'z' {
			return false
		}
	}
	return 1 <= len(word) && len(word) <= longest
}

// number is the value that a word says, by its bits or as a whole number.
func number(word string) (api.Val, bool) {
	if bits, found := strings.CutPrefix(word, "x"); found {
		v, errno := value.Parse(bits)
		return v, errno == api.OK
	}
	digits, below := strings.CutPrefix(word, "-")
	n, ok := whole(digits)
	switch {
	case !ok, below && n == 0:
		return 0, false
	case below:
		n = -n
	}
	return value.Int(n)
}

// whole is the number that digits say; false, if they have noughts ahead, or say one that is too far from 0. It looks at that digit by digit, so that it cannot go round, however many there are.
func whole(digits string) (n int, ok bool) {
	for at, sign := range digits {
		if sign < '0' || sign > '9' || at > 0 && n == 0 {
			return 0, false
		}
		n = 10*n + int(sign-'0')
		if n > farthest {
			return 0, false
		}
	}
	return n, digits != ""
}
