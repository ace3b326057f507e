package verify

import (
	"rowlock/api"
	"rowlock/code"
)

// unreached is the number of a place that no way has come to.
const unreached = -1

// ways are the ways through a program as far as they were gone: of each place how many values stand ahead of it.
type ways struct {
	l     []api.Ins
	depth []int
}

// Depths are how many values stand on the stack ahead of each instruction (-1: it is never reached); else the first place that is gone through and is wrong.
func Depths(l []api.Ins) ([]int, int, api.Errno) {
	if _, at, errno := Regions(l); errno != api.OK {
		return nil, at, errno
	}
	w := waysOf(l)
	if at, errno := w.walk(); errno != api.OK {
		return nil, at, errno
	}
	return w.depth, 0, api.OK
}

// waysOf are the ways of a program ahead of the first step.
func waysOf(l []api.Ins) *ways {
	w := &ways{l: l, depth: make([]int, len(l))}
	for at := range w.depth {
		w.depth[at] = unreached
	}
	if len(l) > 0 {
		w.depth[0] = 0
	}
	return w
}

// walk goes through all places that are reached, always the least one that was not gone through. All below the one that it looks at are done with, but where a way leads back to a new one: it jumps out and goes on from there. What it comes through once more on the way up has nothing new to tell.
func (w *ways) walk() (int, api.Errno) {
	from := 0
again:
	for at := from; at < len(w.l); at++ {
		if w.depth[at] == unreached {
			continue
		}
		least, errno := w.through(at)
		if errno != api.OK {
			return at, errno
		}
		if least < at {
			from = least
			goto again
		}
	}
	return 0, api.OK
}

// through goes through one place; it tells the least place that is reached by it for the first time (the end, if none is).
func (w *ways) through(at int) (int, api.Errno) {
	pops, pushes := code.Effect(w.l[at].Op)
	behind := w.depth[at] - pops + pushes
	if pops > w.depth[at] || behind > api.MaxStack {
		return 0, api.ErrStack
	}
	least := len(w.l)
	for _, next := range w.nexts(at) {
		switch {
		case !isPlace(w.l, next):
			return 0, api.ErrForm
		case w.depth[next] == unreached:
			w.depth[next] = behind
			least = min(least, next)
		case w.depth[next] != behind:
			return 0, api.ErrStack
		}
	}
	return least, api.OK
}

// nexts are the places that may come behind a place, in their order. The Args of brackets are right, since Regions was asked.
func (w *ways) nexts(at int) []int {
	arg := w.l[at].Arg
	switch w.l[at].Op {
	case api.Jump:
		return []int{arg}
	case api.IfZero:
		return []int{at + 1, arg}
	case api.OrElse:
		return []int{at + 1, arg + 1}
	case api.Else:
		return []int{arg + 1}
	case api.Retry, api.Halt:
		return nil
	}
	return []int{at + 1}
}
