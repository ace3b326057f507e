package across

import (
	"slices"
	"testing"

	"rowlock/api"
	"rowlock/calls"
	"rowlock/history"
	"rowlock/linear"
	"rowlock/machine"
	"rowlock/object"
	"rowlock/value"
)

// thing is an object that lies in a heap, from a variable on.
type thing struct {
	kind       api.ObjectKind
	size, tvar int
}

// drawnThing is a small one: the smaller it is, the more they stand in each other's way.
func drawnThing(draw func(int) int) thing {
	o := thing{kind: api.ObjectKind(1 + draw(4))}
	switch o.kind {
	case api.Semaphore:
		o.size = draw(3)
	case api.Queue, api.Barrier:
		o.size = 1 + draw(3)
	}
	o.tvar = draw(3)
	return o
}

// heap is one in which the object has its first values; all others are NaN.
func (o thing) heap(t *testing.T) []api.Val {
	t.Helper()
	own, e := calls.Begin(o.kind, o.size)
	if e != api.OK {
		t.Fatalf("Begin of %+v: %d", o, e)
	}
	return slices.Concat(slices.Repeat([]api.Val{api.NaN}, o.tvar), own, []api.Val{api.NaN})
}

// user is a thread that calls an object again and again.
type user struct {
	calls []api.Call
	code  []api.Ins
}

// call lets the user call once more, while there is room for it.
func (u *user) call(t *testing.T, o thing, c api.Call) {
	t.Helper()
	l := append(slices.Clone(u.calls), c)
	program, e := calls.Program(o.kind, o.size, o.tvar, c.Who, l)
	if e == api.ErrSpace {
		return
	}
	if e != api.OK {
		t.Fatalf("the program of %+v: %d", l, e)
	}
	u.calls, u.code = l, program
}

// drawnUser calls as most would: what was taken is given back, who has arrived leaves; now and then it does not.
func drawnUser(t *testing.T, draw func(int) int, o thing, who int) *user {
	t.Helper()
	kinds := []api.CallKind{api.LockIt + 2*api.CallKind(o.kind-api.Mutex), api.UnlockIt + 2*api.CallKind(o.kind-api.Mutex)}
	if o.kind == api.Queue && draw(2) == 0 {
		slices.Reverse(kinds)
	}
	u := &user{}
	for i := range 1 + draw(6) {
		c := api.Call{Kind: kinds[i%2], Who: who}
		if draw(9) == 0 {
			c.Kind = kinds[draw(2)]
		}
		switch c.Kind {
		case api.EnterIt:
			c.Val = value.Of(float64(10*who + i))
		case api.LeaveIt:
			c.Val = value.Of(float64(draw(3) / 2))
		}
		u.call(t, o, c)
	}
	return u
}

// leaves tells whether a call's block leaves its answer on the stack.
func leaves(k api.CallKind) bool {
	return k == api.UnlockIt || k == api.TakeIt || k == api.ArriveIt
}

// crowd is users of one object, threads of a machine, and the spans of their calls.
type crowd struct {
	t     *testing.T
	o     thing
	m     *machine.Machine
	users []*user
	spans []api.Span
	at    [api.MaxThreads][]int // the places of each user's spans
}

// step lets a user go on, and notes whether a call begins or ends by it.
func (c *crowd) step(th int) {
	c.t.Helper()
	was, l := c.m.Commits(th), c.at[th]
	_, had := c.m.Attempt(th)
	c.m.Step(th)
	_, has := c.m.Attempt(th)
	switch {
	case has && !had && len(l) == was: // not again, behind an abort
		c.at[th] = append(l, len(c.spans))
		c.spans = append(c.spans, api.Span{Call: c.users[th].calls[was], From: c.m.Time(), To: -1})
	case c.m.Commits(th) > was:
		s := &c.spans[l[was]]
		s.To, s.Answer = c.m.Time(), api.One
		if leaves(s.Call.Kind) {
			stack := c.m.Thread(th).Stack
			s.Answer = stack[len(stack)-1]
		}
	}
}

// order are the places of the calls whose blocks are committed, as the machine's order has them.
func (c *crowd) order() []int {
	var order []int
	var done [api.MaxThreads]int
	events, decided := c.m.Events(), c.m.Decided()
	for _, number := range c.m.Order() {
		if history.StateOf(events, number) == api.Success || slices.Contains(decided, number) {
			th, _ := c.m.Owner(number)
			order = append(order, c.at[th][done[th]])
			done[th]++
		}
	}
	return order
}

// holds holds all calls against E6: in the machine's order they can have come one behind the other, and the variables are the object's behind them.
func (c *crowd) holds() {
	c.t.Helper()
	order := c.order()
	if place, e := linear.Legal(c.o.kind, c.o.size, c.spans, order); place != 0 || e != api.OK {
		c.t.Fatalf("%+v in the order %v are not Legal: %d, %d", c.spans, order, place, e)
	}
	if found, e := linear.Found(c.o.kind, c.o.size, c.spans); len(c.spans) <= 6 && e != api.OK {
		c.t.Fatalf("of %+v Found is %v, %d", c.spans, found, e)
	}
	if c.m.Locked() {
		return
	}
	o := object.New(c.o.kind, c.o.size)
	for _, at := range order {
		o.Do(c.spans[at].Call)
	}
	heap, n := c.m.Heap(), calls.Tvars(c.o.kind, c.o.size)
	got, e := calls.ShapeOf(c.o.kind, c.o.size, heap[c.o.tvar:c.o.tvar+n])
	want := o.Shape()
	if e != api.OK || got.Owner != want.Owner || got.Count != want.Count || got.Gen != want.Gen || !slices.Equal(got.Vals, want.Vals) {
		c.t.Fatalf("the variables are %v, and the object %+v", heap, want)
	}
	others := slices.Concat(heap[:c.o.tvar], heap[c.o.tvar+n:])
	if slices.ContainsFunc(others, func(v api.Val) bool { return v != api.NaN }) {
		c.t.Fatalf("a variable that is not the object's has changed: %v", heap)
	}
}

// answered holds what a thread has put out against the answers of its calls that have ended: the last one's may be on its way yet.
func (c *crowd) answered(th int) {
	c.t.Helper()
	var want []api.Val
	for _, at := range c.at[th][:c.m.Commits(th)] {
		want = append(want, c.spans[at].Answer)
	}
	out := c.m.Thread(th).Out
	if len(out) > len(want) || len(out) < len(want)-1 || !slices.Equal(out, want[:len(out)]) {
		c.t.Fatalf("thread %d has put out %v, and its calls were answered %v", th, out, want)
	}
}

// tell counts how the users are, and how many calls were going on beside each other.
func (c *crowd) tell(told map[string]int) {
	c.t.Helper()
	name := []string{"", "mutex ", "semaphore ", "queue ", "barrier "}[c.o.kind]
	for th, u := range c.users {
		c.answered(th)
		switch c.m.StateOf(th) {
		case api.Halted:
			told[name+"halted"]++
			if c.m.Commits(th) != len(u.calls) || len(c.m.Thread(th).Out) != len(u.calls) {
				c.t.Fatalf("thread %d has done %d of %d calls", th, c.m.Commits(th), len(u.calls))
			}
		case api.Asleep:
			told[name+"asleep"]++
		case api.Broken:
			if c.m.Errno(th) != api.ErrSpace {
				c.t.Fatalf("thread %d is broken by %d", th, c.m.Errno(th))
			}
		}
	}
	for at := range c.spans {
		for other := range at {
			if !linear.Before(c.spans, other, at) {
				told[name+"beside"]++
			}
		}
	}
}

// drawnCrowd is users of one object over an engine.
func drawnCrowd(t *testing.T, draw func(int) int) *crowd {
	t.Helper()
	c := &crowd{t: t, o: drawnThing(draw)}
	var programs [][]api.Ins
	for th := range 2 + draw(3) {
		u := drawnUser(t, draw, c.o, th)
		c.users, programs = append(c.users, u), append(programs, u.code)
	}
	c.m = machine.New(api.EngineKind(1+draw(2)), c.o.heap(t), 1+draw(4), api.ManagerKind(1+draw(3)), programs...)
	if c.m == nil {
		t.Fatal("New is nil")
	}
	return c
}

// TestManyUsers: E6, P21.3, P22.3, P23.3, P24.3: mutexes, semaphores, queues and barriers by threads over both engines, with each manager, in whatever order they go on: their calls can have come one behind the other.
func TestManyUsers(t *testing.T) {
	draw := numbers(6)
	told := map[string]int{}
	for range 2000 {
		c := drawnCrowd(t, draw)
		for range 25 {
			th := draw(len(c.users))
			for range 1 + draw(30) {
				c.step(th)
			}
			c.holds()
		}
		c.tell(told)
	}
	for _, name := range []string{"mutex ", "semaphore ", "queue ", "barrier "} {
		if told[name+"halted"] < 100 || told[name+"asleep"] < 100 || told[name+"beside"] < 500 {
			t.Errorf("%v", told)
		}
	}
}

// TestSleepingTaker: E4, the second example of the whole: who takes from an empty queue sleeps, till another one has put something in.
func TestSleepingTaker(t *testing.T) {
	for _, engine := range []api.EngineKind{api.Tl2, api.Norec} {
		o := thing{kind: api.Queue, size: 2, tvar: 1}
		taker, enterer := &user{}, &user{}
		taker.call(t, o, api.Call{Kind: api.TakeIt})
		enterer.call(t, o, api.Call{Kind: api.EnterIt, Who: 1, Val: api.Infinity})
		m := machine.New(engine, o.heap(t), 4, api.Polite, taker.code, enterer.code)
		for range 200 {
			m.Step(0)
		}
		if m.StateOf(0) != api.Asleep {
			t.Fatalf("the taker is %d", m.StateOf(0))
		}
		for range 200 {
			m.Step(1)
		}
		if m.StateOf(0) != api.Running || m.StateOf(1) != api.Halted {
			t.Fatalf("the taker is %d, who enters %d", m.StateOf(0), m.StateOf(1))
		}
		for range 200 {
			m.Step(0)
		}
		if m.StateOf(0) != api.Halted || !slices.Equal(m.Thread(0).Out, []api.Val{api.Infinity}) {
			t.Errorf("the taker is %d, and has put out %v", m.StateOf(0), m.Thread(0).Out)
		}
	}
}

// TestBarrierIsAWall: E6: nobody leaves ahead of the last one's arriving, and then all do.
func TestBarrierIsAWall(t *testing.T) {
	for _, engine := range []api.EngineKind{api.Tl2, api.Norec} {
		o := thing{kind: api.Barrier, size: 4}
		var programs [][]api.Ins
		for who := range o.size {
			u := &user{}
			u.call(t, o, api.Call{Kind: api.ArriveIt, Who: who})
			u.call(t, o, api.Call{Kind: api.LeaveIt, Who: who})
			programs = append(programs, u.code)
		}
		m := machine.New(engine, o.heap(t), 4, api.Greedy, programs...)
		for th := range o.size {
			for range 300 {
				m.Step(th)
			}
			want := api.Asleep
			if th == o.size-1 {
				want = api.Halted
			}
			if m.StateOf(th) != want || m.Commits(0) != 1 {
				t.Fatalf("thread %d is %d", th, m.StateOf(th))
			}
		}
		for th := range o.size {
			for range 300 {
				m.Step(th)
			}
			if m.StateOf(th) != api.Halted || !slices.Equal(m.Thread(th).Out, []api.Val{0, api.One}) {
				t.Errorf("thread %d is %d, and has put out %v", th, m.StateOf(th), m.Thread(th).Out)
			}
		}
	}
}
