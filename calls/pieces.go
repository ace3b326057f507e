package calls

import (
	"rowlock/api"
	"rowlock/flows"
	"rowlock/locks"
)

// piece is a part of a program: what it is hangs on the place from which on it stands.
type piece func(at int) ([]api.Ins, api.Errno)

// built is a program of calls that are right. It goes no further than there is room: what was called beyond that is of no matter.
func built(size, tvar int, l []api.Call) ([]api.Ins, api.Errno) {
	var program []api.Ins
	for _, c := range l {
		var e api.Errno
		program, e = joined(program, ahead(c), block(c, size, tvar), answer(c.Kind))
		if e != api.OK {
			return nil, e
		}
	}
	return joined(program, row(api.Ins{Op: api.Halt}))
}

// joined is a program with pieces behind its end. As the program never gets longer than it may be, no piece is asked for a place that is none: all that one can lack is room.
func joined(program []api.Ins, pieces ...piece) ([]api.Ins, api.Errno) {
	for _, p := range pieces {
		l, e := p(len(program))
		if e != api.OK || len(program)+len(l) > api.MaxCode {
			return nil, api.ErrSpace
		}
		program = append(program, l...)
	}
	return program, api.OK
}

// row is a piece that is the same at all places.
func row(l ...api.Ins) piece {
	return func(int) ([]api.Ins, api.Errno) { return l, api.OK }
}

// ahead is what a call's block finds ready: a generation, in a local.
func ahead(c api.Call) piece {
	if c.Kind == api.LeaveIt {
		return row(api.Ins{Op: api.Push, Val: c.Val}, api.Ins{Op: api.SetLocal})
	}
	return row()
}

// block is a call's block.
func block(c api.Call, size, tvar int) piece {
	return func(at int) ([]api.Ins, api.Errno) {
		switch c.Kind {
		case api.LockIt:
			return locks.Lock(at, tvar, c.Who)
		case api.UnlockIt:
			return locks.Unlock(at, tvar, c.Who)
		case api.DownIt:
			return locks.Down(at, tvar)
		case api.UpIt:
			return locks.Up(at, tvar)
		case api.EnterIt:
			return flows.Enter(at, tvar, size, c.Val)
		case api.TakeIt:
			return flows.Take(at, tvar, size)
		case api.ArriveIt:
			return flows.Arrive(at, tvar, size)
		}
		return flows.Leave(at, tvar, 0)
	}
}

// answer puts out what a call answers. Blocks that leave nothing on the stack have done what they should when they are at their end: One.
func answer(k api.CallKind) piece {
	var l []api.Ins
	switch k {
	case api.LockIt, api.DownIt, api.UpIt, api.EnterIt, api.LeaveIt:
		l = append(l, api.Ins{Op: api.Push, Val: api.One})
		fallthrough
	default:
		l = append(l, api.Ins{Op: api.Out})
	}
	return row(l...)
}
