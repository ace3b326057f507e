package machine

import (
	"rowlock/api"
	"rowlock/norec"
	"rowlock/tl2"
)

// engine is the face that both engines have. Fork is not in it, since each answers its own type.
type engine interface {
	Begin(th int) (int, api.Errno)
	Ask(th int, a api.Ask) api.Errno
	Step(th int) api.Reply
	Kill(th int) api.Errno
	Heap() []api.Val
	Events() []api.Event
	Order() []int
	Decided() []int
	Why(attempt int) api.Reason
	Attempt(th int) (int, bool)
	Asked(th int) (api.Ask, bool)
	Reads(th int) []api.Entry
	Writes(th int) []api.Pair
	Holds(th int) bool
	Valid(th int) bool
}

// engineOf is one of a kind; nil: it may not be. (A nil pointer of an engine would be an engine that is not nil.)
func engineOf(k api.EngineKind, heap []api.Val, stripes int) engine {
	switch k {
	case api.Tl2:
		if e := tl2.New(heap, stripes); e != nil {
			return e
		}
	case api.Norec:
		if e := norec.New(heap); e != nil {
			return e
		}
	}
	return nil
}

// forked is another engine with the same.
func forked(e engine) engine {
	switch own := e.(type) {
	case *tl2.Engine:
		return own.Fork()
	case *norec.Engine:
		return own.Fork()
	}
	return nil
}
