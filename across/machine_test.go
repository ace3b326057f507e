package across

import (
	"slices"
	"testing"

	"rowlock/api"
	"rowlock/history"
	"rowlock/machine"
	"rowlock/opaque"
	"rowlock/spec"
)

// watch is a machine that is held, step by step, against what follows from its chapter.
type watch struct {
	t       *testing.T
	m       *machine.Machine
	first   []api.Val
	code    [][]api.Ins
	ahead   [api.MaxThreads]api.State // where its last attempt began
	reads   [api.MaxThreads][]int     // the variables that it registered for last
	written [api.MaxThreads]bool      // one of these was written by a block that ended since
	told    map[string]int            // how often something came up
}

// seen is what is told of a thread.
type seen struct {
	doing   api.ThreadState
	state   api.State
	commits int
	errno   api.Errno
	attempt int
	has     bool
	waits   bool
}

// see is what the machine tells of a thread.
func (w *watch) see(th int) seen {
	s := seen{doing: w.m.StateOf(th), state: w.m.Thread(th), commits: w.m.Commits(th), errno: w.m.Errno(th), waits: slices.Contains(w.m.Waiting(), th)}
	s.attempt, s.has = w.m.Attempt(th)
	return s
}

// step lets a thread go on, and holds all threads against what may have come of it.
func (w *watch) step(th int) {
	w.t.Helper()
	var was []seen
	for other := range w.code {
		was = append(was, w.see(other))
	}
	w.m.Step(th)
	var wrote []int
	if now := w.see(th); now.commits > was[th].commits {
		for _, p := range history.Writes(w.m.Events(), was[th].attempt) {
			wrote = append(wrote, p.Tvar)
		}
	}
	for other := range w.code {
		w.woken(other, wrote)
		if other == th {
			w.own(th, was[th], w.see(th))
		} else {
			w.others(other, was[other], w.see(other))
		}
		w.rests(other)
	}
}

// woken notes that variables were written by a block that has ended: who waits for one of them waits no more, and does not sleep (P19.6, E4).
func (w *watch) woken(th int, wrote []int) {
	w.t.Helper()
	if !slices.ContainsFunc(wrote, func(tvar int) bool { return slices.Contains(w.reads[th], tvar) }) {
		return
	}
	w.written[th] = true
	if s := w.see(th); s.waits || s.doing == api.Asleep {
		w.t.Fatalf("thread %d is %+v, though %v were written", th, s, wrote)
	}
}

// own holds what became of the thread that went on.
func (w *watch) own(th int, was, now seen) {
	w.t.Helper()
	if now.waits && !was.waits {
		w.reads[th], w.written[th] = nil, false
		for _, p := range history.Reads(w.m.Events(), now.attempt) {
			w.reads[th] = append(w.reads[th], p.Tvar)
		}
	}
	switch {
	case now.has && !was.has:
		w.ahead[th] = was.state
		if owner, ok := w.m.Owner(now.attempt); owner != th || !ok {
			w.t.Fatalf("attempt %d is %d's", now.attempt, owner)
		}
	case was.has && !now.has && now.commits == was.commits:
		w.told["aborted"]++
		w.dropped(th, was, now)
	case was.has && !now.has:
		w.told["committed"]++
	}
	if was.doing == api.Running && now.doing != api.Running {
		w.told[[]string{"", "backs", "sleeps", "halts", "breaks"}[now.doing]]++
	}
}

// dropped holds a thread whose attempt was aborted: it stands where the block began, but for one that is stuck in it (P19.7).
func (w *watch) dropped(th int, was, now seen) {
	w.t.Helper()
	if w.m.Why(was.attempt) == api.NoReason || history.StateOf(w.m.Events(), was.attempt) != api.Failure {
		w.t.Fatalf("attempt %d has ended by nothing", was.attempt)
	}
	if now.doing != api.Broken && !sameState(now.state, w.ahead[th]) {
		w.t.Fatalf("thread %d starts again at %+v, not at %+v", th, now.state, w.ahead[th])
	}
}

// others holds what became of a thread that did not go on: nothing, but that it may be killed, or woken.
func (w *watch) others(th int, was, now seen) {
	w.t.Helper()
	if was.has && !now.has {
		w.told["killed"]++
		if w.m.Why(was.attempt) != api.Killed || now.doing != api.Running {
			w.t.Fatalf("thread %d was %+v, and is %+v", th, was, now)
		}
		w.dropped(th, was, now)
		was.has, was.attempt, was.state, was.doing = false, 0, now.state, now.doing
	}
	if was.waits && !now.waits {
		w.told["woken"]++
		if now.doing != api.Running || !w.written[th] {
			w.t.Fatalf("thread %d was %+v, and is %+v", th, was, now)
		}
		was.waits, was.doing = false, api.Running
	}
	if was.doing != now.doing || was.commits != now.commits || was.errno != now.errno || was.has != now.has || was.attempt != now.attempt || was.waits != now.waits || !sameState(was.state, now.state) {
		w.t.Fatalf("thread %d was %+v, and is %+v", th, was, now)
	}
}

// rests holds a thread against what its state says.
func (w *watch) rests(th int) {
	w.t.Helper()
	s := w.see(th)
	ok := true
	switch s.doing {
	case api.Asleep:
		ok = !s.has && s.waits && !w.written[th] && sameState(s.state, w.ahead[th])
	case api.Halted, api.Broken:
		ok = !s.has && !s.waits
	case api.Backing:
		ok = s.has && !s.waits
	}
	if !ok || (s.errno != api.OK) != (s.doing == api.Broken) {
		w.t.Fatalf("thread %d is %+v", th, s)
	}
}

// legal holds the order against P19.5, and the heap, where no lock is, against what those that committed wrote (P19.7).
func (w *watch) legal() {
	w.t.Helper()
	events := w.m.Events()
	if len(events) > api.MaxEvents {
		w.told["long"]++
		return
	}
	if place, errno := opaque.Legal(events, w.first, w.m.Order(), w.m.Decided()); place != 0 || errno != api.OK {
		w.t.Fatalf("Order is not Legal: %d, %d", place, errno)
	}
	if heap, _ := opaque.Heap(events, w.first, w.m.Order(), w.m.Decided()); !w.m.Locked() && !slices.Equal(heap, w.m.Heap()) {
		w.t.Fatalf("the heap is %v, not %v", w.m.Heap(), heap)
	}
}

// serial holds all against P19.4: the blocks that are committed, one at a time in Order, by spec, come to the heap and to what each thread put out.
func (w *watch) serial() {
	w.t.Helper()
	events, heap := w.m.Events(), slices.Clone(w.first)
	states := make([]api.State, len(w.code))
	done := make([]int, len(w.code))
	for _, number := range w.m.Order() {
		th, _ := w.m.Owner(number)
		if history.StateOf(events, number) != api.Success {
			continue
		}
		o := spec.Plain(w.code[th], states[th], api.MaxFuel)
		if o.Kind == api.AtBlock {
			o = spec.Block(w.code[th], o.State, heap, api.MaxFuel)
		}
		if o.Errno == api.ErrFuel {
			return
		}
		if o.Kind != api.Finished {
			w.t.Fatalf("attempt %d of thread %d comes to %+v", number, th, o)
		}
		states[th], heap = o.State, o.Heap
		done[th]++
	}
	if !w.m.Locked() && !slices.Equal(heap, w.m.Heap()) {
		w.t.Fatalf("the heap is %v, not %v", w.m.Heap(), heap)
	}
	for th, s := range states {
		w.putOut(th, s)
		if done[th] != w.m.Commits(th) {
			w.t.Fatalf("thread %d has done %d blocks, not %d", th, w.m.Commits(th), done[th])
		}
	}
}

// putOut holds what a thread put out against what it puts out behind its last block, from a State on.
func (w *watch) putOut(th int, s api.State) {
	w.t.Helper()
	o, out := spec.Plain(w.code[th], s, api.MaxFuel), w.m.Thread(th).Out
	if o.Errno == api.ErrFuel {
		return
	}
	all := o.State.Out
	if len(out) < len(s.Out) || len(out) > len(all) || !slices.Equal(out, all[:len(out)]) {
		w.t.Fatalf("thread %d put out %v, not %v", th, out, all)
	}
	if w.m.StateOf(th) == api.Halted && (o.Kind != api.Finished || len(out) != len(all) || !sameState(o.State, w.m.Thread(th))) {
		w.t.Fatalf("thread %d has halted at %+v, not at %+v", th, w.m.Thread(th), o)
	}
}

// drawnMachine is one of drawn programs, one a thread.
func drawnMachine(t *testing.T, draw func(int) int, threads int) *watch {
	w := &watch{t: t, first: drawnHeap(draw), told: map[string]int{}}
	for range threads {
		w.code = append(w.code, drawnRight(draw, draw(3) == 0))
	}
	k, m := api.EngineKind(1+draw(2)), api.ManagerKind(1+draw(3))
	w.m = machine.New(k, w.first, 1+draw(4), m, w.code...)
	if w.m == nil {
		t.Fatal("New is nil")
	}
	return w
}

// TestManyMachines: P19.4 to P19.7, E3, E4: many drawn programs, and picks: at each step, and at the end.
func TestManyMachines(t *testing.T) {
	draw := numbers(19)
	told := map[string]int{}
	for range 1500 {
		w := drawnMachine(t, draw, 1+draw(api.MaxThreads))
		w.told = told
		for i := range 400 {
			w.step(draw(len(w.code)))
			if i%9 == 0 {
				w.legal()
			}
		}
		w.legal()
		w.serial()
	}
	for _, name := range []string{"aborted", "committed", "woken", "backs", "sleeps", "halts", "breaks"} {
		if told[name] < 20 {
			t.Errorf("%s: %d times", name, told[name])
		}
	}
}

// drawnFighter is a program whose blocks read some variables and write several, so that others are often in its way.
func drawnFighter(draw func(int) int) []api.Ins {
	w := &writer{draw: draw}
	for range 1 + draw(3) {
		from := w.put(api.Atomic, 0)
		for range draw(3) {
			w.put(api.Get, draw(tvars))
			w.put(api.Pop, 0)
		}
		for range 1 + draw(3) {
			w.put(api.Get, draw(tvars))
			at := w.put(api.Push, 0)
			w.l[at].Val = api.One
			w.put(api.Add, 0)
			w.put(api.Put, draw(tvars))
		}
		w.l[from].Arg = w.put(api.End, 0)
	}
	return w.program()
}

// TestManyFights: P19.4, P19.5, P19.7: threads that are often in each other's way, with each manager; all come to their end.
func TestManyFights(t *testing.T) {
	draw := numbers(12)
	told := map[api.ManagerKind]map[string]int{}
	for n := range 1200 {
		k := api.ManagerKind(1 + n%3)
		if told[k] == nil {
			told[k] = map[string]int{}
		}
		w := &watch{t: t, first: []api.Val{0, api.One, 0}, told: told[k]}
		for range 2 + draw(3) {
			w.code = append(w.code, drawnFighter(draw))
		}
		w.m = machine.New(api.EngineKind(1+n%2), w.first, 1+draw(4), k, w.code...)
		for range 60 {
			th := draw(len(w.code))
			for range 1 + draw(12) {
				w.step(th)
			}
			w.legal()
		}
		for range 6000 {
			w.m.Step(draw(len(w.code)))
		}
		w.serial()
		for th := range w.code { // those that abort each other again and again come to the end of the attempts
			if w.m.StateOf(th) != api.Halted && w.m.Errno(th) != api.ErrSpace {
				t.Fatalf("thread %d is %d behind so many steps", th, w.m.StateOf(th))
			}
		}
	}
	for k, l := range told {
		if l["killed"] < 20 || l["backs"] < 200 || l["committed"] < 1000 || l["halts"] < 300 {
			t.Errorf("manager %d: %v", k, l)
		}
	}
}

// drawnWaiter is a program that waits till a variable is a number, and then sets another one to one, again and again.
func drawnWaiter(draw func(int) int) []api.Ins {
	w := &writer{draw: draw}
	for range 1 + draw(3) {
		from := w.put(api.Atomic, 0)
		tvar := draw(2)
		w.put(api.Get, tvar)
		at := w.put(api.Push, 0)
		w.l[at].Val = []api.Val{0, api.One}[draw(2)]
		w.put(api.Same, 0)
		zero := w.put(api.IfZero, 0)
		at = w.put(api.Push, 0)
		w.l[at].Val = []api.Val{0, api.One}[draw(2)]
		w.put(api.Put, []int{tvar, 1 - tvar, 2}[draw(3)])
		jump := w.put(api.Jump, 0)
		w.l[zero].Arg = w.put(api.Retry, 0)
		end := w.put(api.End, 0)
		w.l[from].Arg, w.l[jump].Arg = end, end
	}
	return w.program()
}

// TestManySleepers: P19.6, E4: threads that wait for each other, the same values written again and again among it.
func TestManySleepers(t *testing.T) {
	draw := numbers(196)
	told := map[string]int{}
	for range 2500 {
		w := &watch{t: t, first: []api.Val{0, api.Val(draw(2)) * api.One, 0}, told: told}
		for range 2 + draw(3) {
			w.code = append(w.code, drawnWaiter(draw))
		}
		w.m = machine.New(api.EngineKind(1+draw(2)), w.first, 1+draw(3), api.ManagerKind(1+draw(3)), w.code...)
		if w.m == nil {
			t.Fatal("New is nil")
		}
		for range 200 {
			w.step(draw(len(w.code)))
		}
		w.legal()
		w.serial()
		w.settled()
	}
	if told["sleeps"] < 1000 || told["woken"] < 300 || told["rest"] < 100 {
		t.Errorf("%v", told)
	}
}

// settled lets all go on for long: where all rest, those that sleep would retry over the heap that there is: nobody sleeps that could go on.
func (w *watch) settled() {
	w.t.Helper()
	for i := range 600 {
		w.m.Step(i % len(w.code))
	}
	for th := range w.code {
		if s := w.m.StateOf(th); s == api.Running || s == api.Backing {
			return
		}
	}
	w.told["rest"]++
	for th, l := range w.code {
		if w.m.StateOf(th) != api.Asleep {
			continue
		}
		if o := spec.Block(l, w.m.Thread(th), w.m.Heap(), api.MaxFuel); o.Kind != api.Retried {
			w.t.Fatalf("thread %d sleeps, and could go on: %+v", th, o)
		}
	}
}

// TestOneAlone: E5: a thread alone is never aborted but by itself, and never backs; it comes to what spec.Run says.
func TestOneAlone(t *testing.T) {
	draw := numbers(5)
	kinds := map[api.OutcomeKind]int{}
	for range 3000 {
		w := drawnMachine(t, draw, 1)
		for range 1500 {
			if s, _ := w.m.Step(0); s == api.Backing {
				t.Fatal("it backs")
			}
		}
		for number := range w.m.Order() {
			if why := w.m.Why(number); why != api.NoReason && why != api.Asked {
				t.Fatalf("attempt %d is aborted by %d", number, why)
			}
		}
		o := spec.Run(w.code[0], w.first, api.MaxFuel)
		if o.Errno == api.ErrFuel {
			continue
		}
		kinds[o.Kind]++
		s, want := w.m.Thread(0), map[api.OutcomeKind]api.ThreadState{api.Finished: api.Halted, api.Retried: api.Asleep, api.Stuck: api.Broken}[o.Kind]
		if o.Kind == api.Retried && w.m.Errno(0) == api.ErrRetry {
			want = api.Broken // it read nothing
		}
		if w.m.StateOf(0) != want || !slices.Equal(w.m.Heap(), o.Heap) || !slices.Equal(s.Out, o.State.Out) {
			t.Fatalf("%v: it is %d at %+v, not as %+v", w.code[0], w.m.StateOf(0), s, o)
		}
		if o.Kind != api.Stuck && !sameState(s, o.State) || o.Kind == api.Stuck && w.m.Errno(0) != o.Errno {
			t.Fatalf("%v: it is %d at %+v, not as %+v", w.code[0], w.m.Errno(0), s, o)
		}
	}
	if kinds[api.Finished] < 300 || kinds[api.Retried] < 100 || kinds[api.Stuck] < 30 {
		t.Errorf("%v", kinds)
	}
}
