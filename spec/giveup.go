package spec

import "rowlock/api"

// stuck is the panic by which this package gives up what can't go on ever.
type stuck struct{ errno api.Errno }

// retried is the panic by which it gives up what can't go on over this heap.
type retried struct{}

// need gives up, unless ok.
func need(ok bool, errno api.Errno) {
	if !ok {
		panic(stuck{errno})
	}
}

// tried is what work comes to: the kind that it answers, or the one by which it gave up, and why.
func tried(work func() api.OutcomeKind) (kind api.OutcomeKind, errno api.Errno) {
	defer func() {
		switch p := recover().(type) {
		case stuck:
			kind, errno = api.Stuck, p.errno
		case retried:
			kind = api.Retried
		}
	}()
	return work(), api.OK
}
