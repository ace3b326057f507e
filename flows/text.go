package flows

import (
	"iter"
	"strconv"

	"rowlock/api"
	"rowlock/code"
	"rowlock/value"
)

// The blocks' texts, an instruction a line. Places are those of a block that begins at 0; n, f and s are the variables from tvar on, size, v and local what is handed in.
const (
	enterText = `atomic 22
get n
push size
same
zero 6
retry
push v
get f
get n
add
dup
push size
less
zero 15
jump 17
push size
sub
putat s
get n
push 1
add
put n
end
`
	takeText = `atomic 23
get n
zero 22
get f
getat s
get n
push 1
sub
put n
get f
push 1
add
dup
push size
less
zero 18
put f
jump 23
pop
push 0
put f
jump 23
retry
end
`
	arriveText = `atomic 18
get f
get n
push 1
add
dup
push size
same
zero 17
pop
push 0
put n
get f
push 1
add
put f
jump 18
put n
end
`
	leaveText = `atomic 7
local local
get f
less
zero 6
jump 7
retry
end
`
)

// names are what the names of a text stand for, and the place from which on its block is to stand.
type names struct {
	at, tvar, size, local int
	val                   api.Val
}

// block is the one that a text tells.
func block(text string, n names) ([]api.Ins, api.Errno) {
	var l []api.Ins
	begin := 0
	for i, sign := range text {
		if sign == '\n' {
			l = append(l, n.read(text[begin:i]))
			begin = i + 1
		}
	}
	if n.at+len(l) > api.MaxCode {
		return nil, api.ErrSpace
	}
	return l, api.OK
}

// read is the instruction that a line tells.
func (n names) read(line string) api.Ins {
	var i api.Ins
	for place, word := range words(line) {
		if place == 0 {
			i.Op, _ = code.ReadWord(word)
		} else {
			i = n.with(i.Op, word)
		}
	}
	return i
}

// words yields the words of a line, each with how many stand ahead of it.
func words(line string) iter.Seq2[int, string] {
	return func(yield func(int, string) bool) {
		count, begin := 0, 0
		for i, sign := range line {
			if sign != ' ' {
				continue
			}
			if !yield(count, line[begin:i]) {
				return
			}
			count, begin = count+1, i+1
		}
		yield(count, line[begin:])
	}
}

// with is an operation with what a word stands for.
func (n names) with(o api.OpCode, word string) api.Ins {
	switch o {
	case api.Push:
		return api.Ins{Op: o, Val: n.value(word)}
	case api.Atomic, api.Jump, api.IfZero:
		return api.Ins{Op: o, Arg: n.at + n.number(word)}
	}
	return api.Ins{Op: o, Arg: n.number(word)}
}

// value is what a word stands for behind a push. All that is no value itself is a number that is small enough for value.Int.
func (n names) value(word string) api.Val {
	if word == "v" {
		return n.val
	}
	v, _ := value.Int(n.number(word))
	return v
}

// number is what a word stands for: a name, or else digits.
func (n names) number(word string) int {
	switch word {
	case "n":
		return n.tvar
	case "f":
		return n.tvar + 1
	case "s":
		return n.tvar + 2
	case "size":
		return n.size
	case "local":
		return n.local
	}
	digits, _ := strconv.Atoi(word)
	return digits
}
