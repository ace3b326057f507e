package norec

import (
	"rowlock/api"
	"rowlock/value"
)

// place is where a step goes on with what is asked for.
type place int

// Places: two of a read, four of a commit, three of looking again.
const (
	nowhere   place = iota // what is asked for is done by one step
	noting                 // 0 of a read: the heap's value
	reading                // 1: it is read, if nobody wrote since the snapshot
	trying                 // 0 of a commit
	locking                // 1: the lock, if nobody wrote since the snapshot
	storing                // 2: the writes, one a step
	unlocking              // 3
	counting               // a of looking again: what the lock counts
	comparing              // b: the reads, one a step
	settling               // c: it is the snapshot, if the lock counts it still
)

// firstOf is the place that what is asked for begins at.
func firstOf(k api.AskKind) place {
	switch k {
	case api.ReadIt:
		return noting
	case api.CommitIt:
		return trying
	}
	return nowhere
}

// goOn is a step of what is asked for. What an attempt wrote itself hides the heap, so that a read of it needs no look at the lock; any other read falls through to what goes by places.
func (e *Engine) goOn(a *attempt) api.Reply {
	switch a.ask.Kind {
	case api.ReadIt:
		if v, has := a.own.Get(a.ask.Tvar); has {
			return e.hasRead(a, v)
		}
		fallthrough
	case api.CommitIt:
		return e.goOnAtPlace(a)
	case api.WriteIt:
		return e.write(a)
	case api.PushIt:
		return e.frame(a, api.Pushed, a.own.Push)
	case api.DropIt:
		return e.frame(a, api.Dropped, a.own.Drop)
	case api.MergeIt:
		return e.frame(a, api.Merged, a.own.Merge)
	}
	return e.abort(a, api.Asked)
}

// goOnAtPlace is a step at the place where an attempt is.
func (e *Engine) goOnAtPlace(a *attempt) api.Reply {
	switch a.place {
	case noting:
		return e.noteValue(a)
	case reading:
		return e.readNoted(a)
	case trying:
		return e.try(a)
	case locking:
		return e.takeLock(a)
	case storing:
		return e.store(a)
	case unlocking:
		return e.unlock(a)
	case counting:
		return e.noteCount(a)
	case comparing:
		return e.compare(a)
	}
	return e.settle(a)
}

// moveTo goes on, at a place.
func (t *task) moveTo(p place) api.Reply {
	t.place, t.gone = p, 0
	return api.Reply{}
}

// lookAgain goes on by looking again; behind that it goes on from back.
func (t *task) lookAgain(back place) api.Reply {
	t.back = back
	return t.moveTo(counting)
}

// done is what a step answers that has done what was asked for; v is what was read, if anything was.
func (t *task) done(v api.Val) api.Reply {
	*t = task{}
	return api.Reply{Done: true, Val: v}
}

// tell notes an event of an attempt.
func (e *Engine) tell(a *attempt, kind api.EventKind, tvar int, v api.Val) {
	e.note(api.Event{Kind: kind, Attempt: a.number, Tvar: tvar, Val: v})
}

// abort ends an attempt by a reason. It has no lock that is to be given back: with it, it is decided, and commits.
func (e *Engine) abort(a *attempt, why api.Reason) api.Reply {
	e.giveUp(a.number, why)
	e.threads[a.thread] = nil
	return api.Reply{Done: true, Ended: true, Reason: why}
}

// commit ends an attempt that has done all.
func (e *Engine) commit(a *attempt) api.Reply {
	e.tell(a, api.Committed, 0, 0)
	e.threads[a.thread] = nil
	return api.Reply{Done: true, Ended: true}
}

// frame changes frames, by change. That has no error: Ask has seen to it.
func (e *Engine) frame(a *attempt, kind api.EventKind, change func() api.Errno) api.Reply {
	change()
	e.tell(a, kind, 0, 0)
	return a.done(0)
}

func (e *Engine) write(a *attempt) api.Reply {
	if a.own.Put(a.ask.Tvar, a.ask.Val) == api.ErrSpace {
		return e.abort(a, api.Full)
	}
	e.tell(a, api.Wrote, a.ask.Tvar, a.ask.Val)
	return a.done(0)
}

// hasRead is the end of a read.
func (e *Engine) hasRead(a *attempt, v api.Val) api.Reply {
	e.tell(a, api.Read, a.ask.Tvar, v)
	return a.done(v)
}

func (e *Engine) noteValue(a *attempt) api.Reply {
	a.val = e.heap[a.ask.Tvar]
	return a.moveTo(reading)
}

// readNoted takes what was noted, if the lock counts the snapshot still: then nobody wrote since, and it stood there together with all that was read ahead.
func (e *Engine) readNoted(a *attempt) api.Reply {
	if !e.lock.Since(e.snapshotOf(a.number)) {
		return a.lookAgain(noting)
	}
	if a.read.Add(api.Entry{Tvar: a.ask.Tvar, Val: a.val}) == api.ErrSpace {
		return e.abort(a, api.Full)
	}
	return e.hasRead(a, a.val)
}

func (e *Engine) try(a *attempt) api.Reply {
	e.tell(a, api.Tried, 0, 0)
	if a.own.Len() == 0 {
		return e.commit(a)
	}
	return a.moveTo(locking)
}

func (e *Engine) takeLock(a *attempt) api.Reply {
	switch e.lock.Try(a.thread, e.snapshotOf(a.number)) {
	case api.OK:
		e.decide(a.number)
		return a.moveTo(storing)
	case api.ErrSpace:
		return e.abort(a, api.Full)
	}
	return a.lookAgain(locking)
}

func (e *Engine) store(a *attempt) api.Reply {
	l := a.own.All()
	p := l[a.gone]
	e.heap[p.Tvar] = p.Val
	a.gone++
	if a.gone == len(l) {
		return a.moveTo(unlocking)
	}
	return api.Reply{}
}

func (e *Engine) unlock(a *attempt) api.Reply {
	e.lock.Unlock(a.thread)
	return e.commit(a)
}

func (e *Engine) noteCount(a *attempt) api.Reply {
	if owner, held := e.lock.Owner(); held {
		return api.Reply{Busy: true, Owner: owner}
	}
	a.count = e.lock.Count()
	return a.moveTo(comparing)
}

// compare holds reads against the heap by their values alone: what was written meanwhile is of no matter, if the same stands there again.
func (e *Engine) compare(a *attempt) api.Reply {
	l := a.read.List()
	if a.gone == len(l) {
		return a.moveTo(settling)
	}
	if r := l[a.gone]; !value.Same(e.heap[r.Tvar], r.Val) {
		return e.abort(a, api.Changed)
	}
	a.gone++
	return api.Reply{}
}

// settle takes what was noted as the snapshot, if nobody wrote while the reads were gone through; else they may be from different times.
func (e *Engine) settle(a *attempt) api.Reply {
	if !e.lock.Since(a.count) {
		return a.moveTo(counting)
	}
	e.renew(a.number, a.count)
	return a.moveTo(a.back)
}
