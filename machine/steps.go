package machine

import "rowlock/api"

// goOn lets a thread go on by one step. One that backs does nothing else in it, like those that go on no more.
func (m *Machine) goOn(th int) {
	w := &m.workers[th]
	switch w.doing {
	case api.Backing:
		w.tick()
		fallthrough
	case api.Asleep, api.Halted, api.Broken:
		return
	}
	_, asked := m.engine.Asked(th)
	switch {
	case asked:
		m.stepEngine(th)
	case w.Needs().Kind == api.RetryNeed:
		m.lookAgain(th)
	default:
		m.stepThread(th)
	}
}

// tick is one of those that it backs.
func (w *worker) tick() {
	w.ticks--
	if w.ticks <= 0 {
		w.doing = api.Running
	}
}

// back lets it back so many ticks.
func (w *worker) back(ticks int) { w.doing, w.ticks = api.Backing, ticks }

// turnTo is what a thread does from now on. One that goes on no more, broken or halted, leaves nothing behind that others could run into.
func (m *Machine) turnTo(th int, state api.ThreadState) {
	switch state {
	case api.Broken:
		m.endAttempt(th)
		fallthrough
	case api.Halted:
		m.judge.Ended(th)
		fallthrough
	default:
		m.workers[th].doing = state
	}
}

// breakWith lets a thread be broken.
func (m *Machine) breakWith(th int, why api.Errno) {
	m.workers[th].errno = why
	m.turnTo(th, api.Broken)
}

// endAttempt asks a thread's attempt to end, if it has one. That is done at once: nobody can be in the way of an abort.
func (m *Machine) endAttempt(th int) {
	if m.engine.Ask(th, api.Ask{Kind: api.AbortIt}) == api.OK {
		m.engine.Step(th)
	}
}

// startAgain ends a thread's attempt, and takes it back to where its block begins.
func (m *Machine) startAgain(th int) {
	m.endAttempt(th)
	m.workers[th].Restart()
}

// stepEngine goes on with what is asked for. What the attempt wrote is told ahead, since nobody tells it of one that has ended.
func (m *Machine) stepEngine(th int) {
	wrote := m.engine.Writes(th)
	r := m.engine.Step(th)
	switch {
	case r.Busy:
		m.settle(th, r.Owner)
	case !r.Done:
	case !r.Ended:
		m.judge.Passed(th)
		m.judge.Opened(th)
		m.workers[th].Give(r.Val)
	case r.Reason == api.NoReason:
		m.workers[th].Give(r.Val)
		m.committed(th, wrote)
	case r.Reason == api.Full:
		m.breakWith(th, api.ErrSpace)
	default:
		m.workers[th].Restart()
	}
}

// settle lets the manager say which of two gives way: the thread, or the owner of what it needs.
func (m *Machine) settle(th, owner int) {
	choice, ticks, _ := m.judge.Choose(th, owner)
	w, other := &m.workers[th], &m.workers[owner]
	switch {
	case choice == api.Wait:
		w.back(ticks)
	case m.engine.Kill(owner) == api.OK:
		other.Restart()
		m.turnTo(owner, api.Running)
	default: // it is decided, and can't be aborted any more
		w.back(1)
	}
}

// committed notes that a thread has done a block, and wakes those that wait for what it wrote.
func (m *Machine) committed(th int, wrote []api.Pair) {
	m.judge.Ended(th)
	m.workers[th].commits++
	var tvars []int
	for _, p := range wrote {
		tvars = append(tvars, p.Tvar)
	}
	for _, woken := range m.lists.Wake(tvars...) {
		m.turnTo(woken, api.Running)
	}
}

// lookAgain lets a thread sleep that was registered, if what it read is as it was. Who was woken since is not in the lists any more: nobody would wake it again, so it does not sleep, even where the same values stand there.
func (m *Machine) lookAgain(th int) {
	if m.engine.Valid(th) && m.lists.Sleep(th) == api.OK {
		m.turnTo(th, api.Asleep)
	} else {
		m.lists.Cancel(th)
	}
	m.startAgain(th)
}

// stepThread lets a thread go on by itself, and sees to what it needs.
func (m *Machine) stepThread(th int) {
	need := m.workers[th].Step()
	switch need.Kind {
	case api.BeginNeed:
		m.begin(th)
	case api.AskNeed:
		if errno := m.engine.Ask(th, need.Ask); errno != api.OK {
			m.startAgain(th)
			m.breakWith(th, errno)
		}
	case api.RetryNeed:
		m.register(th)
	case api.HaltNeed:
		m.turnTo(th, api.Halted)
	case api.StuckNeed:
		m.breakWith(th, need.Errno)
	}
}

// begin begins an attempt, as soon as the engine lets it. Whom the manager has a stamp of still, it is the same block's again.
func (m *Machine) begin(th int) {
	_, errno := m.engine.Begin(th)
	switch errno {
	case api.OK:
		m.owners = append(m.owners, th)
		m.workers[th].Began()
		m.judge.Began(th, m.judge.Stamp(th) != 0)
	case api.ErrSpace:
		m.breakWith(th, errno)
	}
}

// register lets a thread wait for what its attempt read, awake; it sleeps only behind looking again, so that nothing that is written meanwhile is missed.
func (m *Machine) register(th int) {
	var tvars []int
	for _, r := range m.engine.Reads(th) {
		tvars = append(tvars, r.Tvar)
	}
	if len(tvars) == 0 { // nobody could ever wake it
		m.startAgain(th)
		m.breakWith(th, api.ErrRetry)
		return
	}
	m.lists.Register(th, tvars...)
}
