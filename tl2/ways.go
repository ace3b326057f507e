package tl2

import "rowlock/api"

// way is how a step goes on with what an attempt asks for.
type way func(a *attempt) api.Reply

// wayOf is the way of what is asked for, at its place.
func (e *Engine) wayOf(a *attempt) way {
	switch a.ask.Kind {
	case api.ReadIt:
		return e.readingWay(a)
	case api.WriteIt:
		return e.write
	case api.PushIt:
		return e.framing(api.Pushed, a.own.Push)
	case api.DropIt:
		return e.framing(api.Dropped, a.own.Drop)
	case api.MergeIt:
		return e.framing(api.Merged, a.own.Merge)
	case api.CommitIt:
		return [...]way{e.try, e.lock, e.check, e.store, e.unlock}[a.place]
	}
	return e.giveUpAsAsked
}

// readingWay is the way of a read: what an attempt wrote itself hides the heap, and needs no look at a lock.
func (e *Engine) readingWay(a *attempt) way {
	if _, has := a.own.Get(a.ask.Tvar); has {
		return e.readOwn
	}
	return [...]way{e.noteWord, e.noteValue, e.readNoted}[a.place]
}

// moveTo goes on, at a place.
func (t *task) moveTo(place int) api.Reply {
	t.place, t.gone = place, 0
	return api.Reply{}
}

// done is what a step answers that has done what was asked for; v is what was read, if anything was.
func (t *task) done(v api.Val) api.Reply {
	*t = task{}
	return api.Reply{Done: true, Val: v}
}

// tell notes an event of an attempt.
func (e *Engine) tell(a *attempt, kind api.EventKind, tvar int, v api.Val) {
	e.note(api.Event{Kind: kind, Attempt: a.number, Tvar: tvar, Val: v})
}

// abort ends an attempt by a reason.
func (e *Engine) abort(a *attempt, why api.Reason) api.Reply {
	e.table.Drop(a.thread)
	e.giveUp(a.number, why)
	e.threads[a.thread] = nil
	return api.Reply{Done: true, Ended: true, Reason: why}
}

// commit ends an attempt that has done all.
func (e *Engine) commit(a *attempt) api.Reply {
	e.tell(a, api.Committed, 0, 0)
	e.threads[a.thread] = nil
	return api.Reply{Done: true, Ended: true}
}

// busy is what a step answers if another thread has a stripe; false, if none has.
func (e *Engine) busy(a *attempt, stripe int) (api.Reply, bool) {
	owner, held := e.table.Owner(stripe)
	if !held || owner == a.thread {
		return api.Reply{}, false
	}
	return api.Reply{Busy: true, Owner: owner}, true
}

func (e *Engine) giveUpAsAsked(a *attempt) api.Reply { return e.abort(a, api.Asked) }

// framing is the way of what changes frames, by change. That has no error: Ask has seen to it.
func (e *Engine) framing(kind api.EventKind, change func() api.Errno) way {
	return func(a *attempt) api.Reply {
		change()
		e.tell(a, kind, 0, 0)
		return a.done(0)
	}
}

func (e *Engine) write(a *attempt) api.Reply {
	if a.own.Put(a.ask.Tvar, a.ask.Val) == api.ErrSpace {
		return e.abort(a, api.Full)
	}
	e.tell(a, api.Wrote, a.ask.Tvar, a.ask.Val)
	return a.done(0)
}

func (e *Engine) readOwn(a *attempt) api.Reply {
	v, _ := a.own.Get(a.ask.Tvar)
	return e.hasRead(a, v)
}

// hasRead is the end of a read.
func (e *Engine) hasRead(a *attempt, v api.Val) api.Reply {
	e.tell(a, api.Read, a.ask.Tvar, v)
	return a.done(v)
}

// noteWord is place 0 of a read.
func (e *Engine) noteWord(a *attempt) api.Reply {
	stripe := e.table.Of(a.ask.Tvar)
	if reply, busy := e.busy(a, stripe); busy {
		return reply
	}
	if e.table.Version(stripe) > a.rv {
		return e.abort(a, api.Changed)
	}
	a.word, _ = e.table.Word(stripe)
	return a.moveTo(1)
}

// noteValue is place 1 of a read.
func (e *Engine) noteValue(a *attempt) api.Reply {
	a.val = e.heap[a.ask.Tvar]
	return a.moveTo(2)
}

// readNoted is place 2 of a read: the same word as ahead of looking into the heap says that nobody wrote there meanwhile.
func (e *Engine) readNoted(a *attempt) api.Reply {
	stripe := e.table.Of(a.ask.Tvar)
	if w, _ := e.table.Word(stripe); w != a.word {
		return e.abort(a, api.Changed)
	}
	entry := api.Entry{Tvar: a.ask.Tvar, Val: a.val, Version: e.table.Version(stripe)}
	if a.read.Add(entry) == api.ErrSpace {
		return e.abort(a, api.Full)
	}
	return e.hasRead(a, a.val)
}

// try is place 0 of a commit.
func (e *Engine) try(a *attempt) api.Reply {
	e.tell(a, api.Tried, 0, 0)
	if a.own.Len() == 0 {
		return e.commit(a)
	}
	return a.moveTo(1)
}

// lock is place 1 of a commit; what it has already it can't lock again. The clock goes on when all is locked: who begins behind that can't read these variables till they are written.
func (e *Engine) lock(a *attempt) api.Reply {
	for _, stripe := range e.stripesOf(a) {
		if reply, busy := e.busy(a, stripe); busy {
			return reply
		}
		if e.table.Lock(a.thread, stripe) == api.OK {
			return api.Reply{}
		}
	}
	wv, errno := e.table.Tick()
	if errno != api.OK {
		return e.abort(a, api.Full)
	}
	a.wv = wv
	return a.moveTo(2)
}

// stripesOf are those of the variables that an attempt has written, rising.
func (e *Engine) stripesOf(a *attempt) []int {
	var tvars []int
	for _, p := range a.own.All() {
		tvars = append(tvars, p.Tvar)
	}
	return e.table.Stripes(tvars...)
}

// check is place 2 of a commit.
func (e *Engine) check(a *attempt) api.Reply {
	l := a.read.List()
	if a.gone == len(l) {
		a.decided = true
		e.decide(a.number, a.wv)
		return a.moveTo(3)
	}
	if !e.passes(a, l[a.gone]) {
		return e.abort(a, api.Changed)
	}
	a.gone++
	return api.Reply{}
}

// store is place 3 of a commit.
func (e *Engine) store(a *attempt) api.Reply {
	l := a.own.All()
	p := l[a.gone]
	e.heap[p.Tvar] = p.Val
	a.gone++
	if a.gone == len(l) {
		return a.moveTo(4)
	}
	return api.Reply{}
}

// unlock is place 4 of a commit.
func (e *Engine) unlock(a *attempt) api.Reply {
	held := e.table.Held(a.thread)
	e.table.Unlock(a.thread, held[0], a.wv)
	if len(held) == 1 {
		return e.commit(a)
	}
	return api.Reply{}
}
