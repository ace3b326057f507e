package across

import (
	"slices"
	"testing"

	"rowlock/api"
	"rowlock/history"
	"rowlock/linear"
	"rowlock/locks"
	"rowlock/machine"
	"rowlock/object"
	"rowlock/value"
)

// user is a thread that calls an object again and again, each call by a block; its answer, if the block leaves one, is put out.
type user struct {
	calls []api.Call
	code  []api.Ins
}

// call lets the user call once more, while there is room for it.
func (u *user) call(t *testing.T, c api.Call, tvar int) {
	t.Helper()
	l, e := lockBlock(len(u.code), c, tvar)
	if c.Kind == api.UnlockIt {
		l = append(l, api.Ins{Op: api.Out})
	}
	if e == api.ErrSpace || len(u.code)+len(l) >= api.MaxCode {
		return
	}
	if e != api.OK {
		t.Fatalf("the block of %+v: %d", c, e)
	}
	u.calls, u.code = append(u.calls, c), append(u.code, l...)
}

// lockBlock is the block of a call of a mutex or a semaphore.
func lockBlock(at int, c api.Call, tvar int) ([]api.Ins, api.Errno) {
	switch c.Kind {
	case api.LockIt:
		return locks.Lock(at, tvar, c.Who)
	case api.UnlockIt:
		return locks.Unlock(at, tvar, c.Who)
	case api.DownIt:
		return locks.Down(at, tvar)
	}
	return locks.Up(at, tvar)
}

// drawnUser calls as most would: what was taken is given back; now and then it does not.
func drawnUser(t *testing.T, draw func(int) int, k api.ObjectKind, tvar, who int) *user {
	t.Helper()
	kinds := []api.CallKind{api.LockIt, api.UnlockIt}
	if k == api.Semaphore {
		kinds = []api.CallKind{api.DownIt, api.UpIt}
	}
	u := &user{}
	for i := range 1 + draw(6) {
		kind := kinds[i%2]
		if draw(9) == 0 {
			kind = kinds[draw(2)]
		}
		u.call(t, api.Call{Kind: kind, Who: who}, tvar)
	}
	u.code = append(u.code, api.Ins{Op: api.Halt})
	return u
}

// crowd is users of one object, threads of a machine, and the spans of their calls.
type crowd struct {
	t     *testing.T
	m     *machine.Machine
	users []*user
	spans []api.Span
	at    [api.MaxThreads][]int // the places of each user's spans
}

// step lets a user go on, and notes whether a call begins or ends by it.
func (c *crowd) step(th int) {
	c.t.Helper()
	was, l := c.m.Commits(th), c.at[th]
	_, had := c.m.Attempt(th)
	c.m.Step(th)
	_, has := c.m.Attempt(th)
	switch {
	case has && !had && len(l) == was: // not again, behind an abort
		c.at[th] = append(l, len(c.spans))
		c.spans = append(c.spans, api.Span{Call: c.users[th].calls[was], From: c.m.Time(), To: -1})
	case c.m.Commits(th) > was:
		s := &c.spans[l[was]]
		s.To, s.Answer = c.m.Time(), api.One
		if s.Call.Kind == api.UnlockIt {
			stack := c.m.Thread(th).Stack
			s.Answer = stack[len(stack)-1]
		}
	}
}

// order are the places of the calls whose blocks are committed, as the machine's order has them.
func (c *crowd) order() []int {
	var order []int
	var done [api.MaxThreads]int
	events, decided := c.m.Events(), c.m.Decided()
	for _, number := range c.m.Order() {
		if history.StateOf(events, number) == api.Success || slices.Contains(decided, number) {
			th, _ := c.m.Owner(number)
			order = append(order, c.at[th][done[th]])
			done[th]++
		}
	}
	return order
}

// holds holds all calls against E6: in the machine's order they can have come one behind the other, and the variable is the object's behind them.
func (c *crowd) holds(k api.ObjectKind, size, tvar int) {
	c.t.Helper()
	order := c.order()
	if place, e := linear.Legal(k, size, c.spans, order); place != 0 || e != api.OK {
		c.t.Fatalf("%+v in the order %v are not Legal: %d, %d", c.spans, order, place, e)
	}
	if found, e := linear.Found(k, size, c.spans); len(c.spans) <= 6 && e != api.OK {
		c.t.Fatalf("of %+v Found is %v, %d", c.spans, found, e)
	}
	if c.m.Locked() {
		return
	}
	o := object.New(k, size)
	for _, at := range order {
		o.Do(c.spans[at].Call)
	}
	n := o.Shape().Count
	if k == api.Mutex {
		n = o.Shape().Owner + 1
	}
	if v := c.m.Heap()[tvar]; v != value.Of(float64(n)) {
		c.t.Fatalf("the variable is %x, and the object %+v", v, o.Shape())
	}
}

// tell counts how the users are, and how many calls were going on beside each other.
func (c *crowd) tell(told map[string]int) {
	c.t.Helper()
	for th, u := range c.users {
		switch c.m.StateOf(th) {
		case api.Halted:
			told["halted"]++
			if c.m.Commits(th) != len(u.calls) {
				c.t.Fatalf("thread %d has done %d of %d calls", th, c.m.Commits(th), len(u.calls))
			}
		case api.Asleep:
			told["asleep"]++
		case api.Broken:
			if c.m.Errno(th) != api.ErrSpace {
				c.t.Fatalf("thread %d is broken by %d", th, c.m.Errno(th))
			}
		}
	}
	for at := range c.spans {
		for other := range at {
			if !linear.Before(c.spans, other, at) {
				told["beside"]++
			}
		}
	}
}

// TestManyUsers: E6, P21.3, P22.3: mutexes and semaphores by threads over both engines, with each manager, in whatever order they go on: their calls can have come one behind the other.
func TestManyUsers(t *testing.T) {
	draw := numbers(6)
	told := map[string]int{}
	for range 1200 {
		k, size := api.Mutex, 0
		if draw(2) == 0 {
			k, size = api.Semaphore, draw(3)
		}
		tvar := draw(tvars)
		heap := make([]api.Val, tvars)
		heap[tvar] = value.Of(float64(size))
		c := &crowd{t: t}
		var programs [][]api.Ins
		for th := range 2 + draw(3) {
			u := drawnUser(t, draw, k, tvar, th)
			c.users, programs = append(c.users, u), append(programs, u.code)
		}
		c.m = machine.New(api.EngineKind(1+draw(2)), heap, 1+draw(4), api.ManagerKind(1+draw(3)), programs...)
		if c.m == nil {
			t.Fatal("New is nil")
		}
		for range 25 {
			th := draw(len(c.users))
			for range 1 + draw(30) {
				c.step(th)
			}
			c.holds(k, size, tvar)
		}
		c.tell(told)
	}
	if told["halted"] < 300 || told["asleep"] < 300 || told["beside"] < 1000 {
		t.Errorf("%v", told)
	}
}
