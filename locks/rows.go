package locks

import (
	"rowlock/api"
	"rowlock/value"
)

// block is rows of instructions, one behind the other, with an atomic ahead and its end behind, from a place on.
func block(at int, rows ...[]api.Ins) ([]api.Ins, api.Errno) {
	body := joined(rows...)
	l := joined(row(to(api.Atomic, 1+len(body))), body, row(op(api.End)))
	if at+len(l) > api.MaxCode {
		return nil, api.ErrSpace
	}
	for i := range l {
		if goesTo(l[i].Op) {
			l[i].Arg += at
		}
	}
	return l, api.OK
}

// joined is rows, one behind the other. What is put behind a row goes to new memory, never into spare room behind its end, which may be another one's.
func joined(rows ...[]api.Ins) []api.Ins {
	var l []api.Ins
	for _, more := range rows {
		l = append(l[:len(l):len(l)], more...)
	}
	return l
}

// row is instructions that follow one another.
func row(l ...api.Ins) []api.Ins { return l }

// goesTo tells whether the Arg of an operation is a place, which is higher by as much as the block is.
func goesTo(o api.OpCode) bool {
	return o == api.Atomic || o == api.Jump || o == api.IfZero
}

// to is an operation with a place of the block, as if that began at 0.
func to(o api.OpCode, place int) api.Ins { return api.Ins{Op: o, Arg: place} }

func op(o api.OpCode) api.Ins { return api.Ins{Op: o} }

func get(tvar int) api.Ins { return api.Ins{Op: api.Get, Arg: tvar} }

func put(tvar int) api.Ins { return api.Ins{Op: api.Put, Arg: tvar} }

// push pushes a number that is small enough for value.Int.
func push(n int) api.Ins {
	v, _ := value.Int(n)
	return api.Ins{Op: api.Push, Val: v}
}
