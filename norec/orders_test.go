package norec

import (
	"fmt"
	"slices"
	"testing"

	"rowlock/api"
	"rowlock/opaque"
	"rowlock/value"
)

// holds holds an engine against what follows, over its first heap: P11.4, P11.5, and that the lock has one owner, who is decided and tries to commit (E2).
func holds(t *testing.T, e *Engine, first []api.Val) {
	t.Helper()
	events, order, decided := e.Events(), e.Order(), e.Decided()
	if place, errno := opaque.Legal(events, first, order, decided); place != 0 || errno != api.OK {
		t.Fatalf("Order %v of %v, with %v, is not Legal: %d, %d", order, events, decided, place, errno)
	}
	owners := 0
	for th := range api.MaxThreads {
		number, _ := e.Attempt(th)
		if a, _ := e.Asked(th); e.Holds(th) && (a.Kind != api.CommitIt || !slices.Equal(decided, []int{number})) {
			t.Fatalf("thread %d has the lock, and asks for %v; decided are %v", th, a, decided)
		}
		if e.Holds(th) {
			owners++
		}
	}
	if owners != len(decided) || owners != int(e.Clock()%2) {
		t.Fatalf("%d have the lock, decided are %v, it counts %d", owners, decided, e.Clock())
	}
	if want, _ := opaque.Heap(events, first, order, decided); owners == 0 && !slices.Equal(e.Heap(), want) {
		t.Fatalf("the heap is %x, not %x, behind %v", e.Heap(), want, events)
	}
}

// stepped is a step of a thread; one that ends by Changed has read what is another one now (P11.7, E5), and one that is busy changes nothing, and another thread has the lock.
func stepped(t *testing.T, e *Engine, th int) api.Reply {
	t.Helper()
	reads, heap, was := e.Reads(th), e.Heap(), e.Fork()
	r := e.Step(th)
	same := !slices.ContainsFunc(reads, func(r api.Entry) bool { return heap[r.Tvar] != r.Val })
	if r.Reason == api.Changed && same {
		t.Fatalf("it ends by Changed, and has read %v, behind %v", reads, e.Events())
	}
	if r.Busy && (state(was, nil) != state(e, nil) || r.Owner == th || !e.Holds(r.Owner)) {
		t.Fatalf("thread %d is busy for %d", th, r.Owner)
	}
	return r
}

// move is what a thread's program asks for; of a write with add the value is what was read last, and 1.
type move struct {
	ask api.Ask
	add bool
}

// runner is a thread that goes through its moves; an attempt that is aborted is begun again, so many times.
type runner struct {
	moves []move
	at    int
	last  api.Val
	tries int
}

// isOver tells whether there is nothing left to do.
func (r *runner) isOver() bool { return r.at == len(r.moves) || r.tries == 0 }

// step lets the thread do one thing, which is a call of Step but at the beginning: what it asks for, it asks for just ahead of the first step.
func (r *runner) step(t *testing.T, e *Engine, th int) api.Reply {
	t.Helper()
	if _, has := e.Attempt(th); !has {
		if _, errno := e.Begin(th); errno != api.OK && (errno != api.ErrBusy || e.Clock()%2 == 0) {
			t.Fatalf("Begin: %d", errno)
		}
		return api.Reply{}
	}
	if _, asked := e.Asked(th); !asked {
		m := r.moves[r.at]
		if m.add {
			m.ask.Val = value.Add(r.last, api.One)
		}
		ask(t, e, th, m.ask)
	}
	reply := stepped(t, e, th)
	switch {
	case reply.Reason != api.NoReason:
		r.at, r.tries = 0, r.tries-1
	case reply.Done:
		if r.moves[r.at].ask.Kind == api.ReadIt {
			r.last = reply.Val
		}
		r.at++
	}
	return reply
}

// explorer goes through all orders of steps of runners, each state once.
type explorer struct {
	t     *testing.T
	first []api.Val
	seen  map[string]struct{}
	ends  func(e *Engine, l []runner)
	told  map[api.Reply]int
}

// explore goes on with each of the runners that is not over.
func (x *explorer) explore(e *Engine, l []runner) {
	key := state(e, l)
	if _, ok := x.seen[key]; ok {
		return
	}
	x.seen[key] = struct{}{}
	holds(x.t, e, x.first)
	over := true
	for th := range l {
		if l[th].isOver() {
			continue
		}
		over = false
		other, runners := e.Fork(), slices.Clone(l)
		reply := runners[th].step(x.t, other, th)
		x.told[api.Reply{Busy: reply.Busy, Ended: reply.Ended, Reason: reply.Reason}]++
		x.explore(other, runners)
	}
	if over {
		x.ends(e, l)
	}
}

// state is all that what becomes of an engine and its runners hangs on, as a text.
func state(e *Engine, l []runner) string {
	s := fmt.Sprint(e.heap, e.events, e.pages, e.Clock())
	for th, a := range e.threads {
		if a != nil {
			s += fmt.Sprint("|", th, a.task, a.number, e.Reads(th), e.Writes(th), e.Holds(th))
		}
	}
	for _, r := range l {
		s += fmt.Sprint("/", r.at, r.last, r.tries)
	}
	return s
}

// allOrders explores programs, one a thread, over an engine whose heap is all zeros, and tells how often which replies came.
func allOrders(t *testing.T, e *Engine, tries int, ends func(e *Engine, l []runner), programs ...[]move) map[api.Reply]int {
	t.Helper()
	x := &explorer{t: t, first: make([]api.Val, len(e.heap)), seen: make(map[string]struct{}), ends: ends, told: make(map[api.Reply]int)}
	var l []runner
	for _, p := range programs {
		l = append(l, runner{moves: p, tries: tries})
	}
	x.explore(e, l)
	if len(x.seen) < 100 {
		t.Errorf("only %d states were seen", len(x.seen))
	}
	return x.told
}

func getting(tvar int) move { return move{ask: read(tvar)} }

func raising(tvar int) move { return move{ask: write(tvar, 0), add: true} }

func putting(tvar int, v api.Val) move { return move{ask: write(tvar, v)} }

// TestAllOrdersOfCounting: two threads both add 1 to a variable: it is 2 when both have committed, whatever the order of steps, and at each step what follows holds.
func TestAllOrdersOfCounting(t *testing.T) {
	count := []move{getting(0), raising(0), {ask: commit}}
	told := allOrders(t, made(t, 1), 3, func(e *Engine, l []runner) {
		want := api.Val(0)
		for _, r := range l {
			if r.tries > 0 {
				want = value.Add(want, api.One)
			}
		}
		if e.Heap()[0] != want {
			t.Fatalf("it is %x, with %d and %d tries left", e.Heap()[0], l[0].tries, l[1].tries)
		}
	}, count, count)
	for _, r := range []api.Reply{{Busy: true}, {Ended: true}, {Ended: true, Reason: api.Changed}} {
		if told[r] == 0 {
			t.Errorf("no step answered %+v", r)
		}
	}
}

// TestAllOrdersOfCrossing: each reads what the other one writes; not both can have read ahead of the other one's write, and commit.
func TestAllOrdersOfCrossing(t *testing.T) {
	allOrders(t, made(t, 2), 1, func(e *Engine, l []runner) {
		if l[0].tries == 1 && l[1].tries == 1 && e.Heap()[0] == api.One && e.Heap()[1] == api.One {
			t.Fatal("both read 0")
		}
	}, []move{getting(0), raising(1), {ask: commit}}, []move{getting(1), raising(0), {ask: commit}})
}

// TestAllOrdersOfWatching: one that reads two variables never sees one of another one's writes without the other one, also if it does not commit.
func TestAllOrdersOfWatching(t *testing.T) {
	allOrders(t, made(t, 2), 1, func(*Engine, []runner) {},
		[]move{getting(0), getting(1), {ask: abort}},
		[]move{putting(1, two), putting(0, two), {ask: commit}})
}

// TestAllOrdersOfSameAgain: two write what stands there already; nobody ends by Changed, whatever the order (P11.7).
func TestAllOrdersOfSameAgain(t *testing.T) {
	told := allOrders(t, made(t, 2), 1, func(e *Engine, l []runner) {
		if e.Heap()[0] != 0 || e.Heap()[1] != api.One || e.Clock() != 4 {
			t.Fatalf("the heap is %x, it counts %d", e.Heap(), e.Clock())
		}
	}, []move{getting(0), raising(1), {ask: commit}}, []move{putting(0, 0), {ask: commit}})
	for r := range told {
		if r.Reason != api.NoReason {
			t.Errorf("a step answered %+v", r)
		}
	}
	if told[api.Reply{Busy: true}] == 0 {
		t.Error("nobody was busy")
	}
}

// TestAllOrdersOfThree: two writers and one that reads both of their variables; all have begun.
func TestAllOrdersOfThree(t *testing.T) {
	e := made(t, 2)
	begin(t, e, 0, 1, 2)
	allOrders(t, e, 1, func(*Engine, []runner) {},
		[]move{getting(0), getting(1), {ask: commit}},
		[]move{putting(1, two), {ask: commit}},
		[]move{putting(0, three), {ask: commit}})
}

// numbers are whole numbers below n, one behind the other, the same ones at each run.
func numbers(x uint64) func(n int) int {
	return func(n int) int {
		x = x*6364136223846793005 + 1442695040888963407
		return int((x >> 33) % uint64(n))
	}
}

// drawnVal is a small number, or one of both zeros, or NaN.
func drawnVal(below func(int) int) api.Val {
	return []api.Val{0, api.NegZero, api.One, api.NaN}[below(4)]
}

// drawnAsk is one of any kind, and now and then of none; reads, writes and commits come most often; long attempts read on and on.
func drawnAsk(below func(int) int, tvars int, long bool) api.Ask {
	kind := api.AskKind(below(int(api.AbortIt) + 2))
	switch below(8) {
	case 0, 1:
		kind = api.ReadIt
	case 2, 3:
		kind = api.WriteIt
	case 4:
		kind = api.CommitIt
	}
	if long && (kind >= api.CommitIt || below(4) > 0) {
		kind = api.ReadIt
	}
	return api.Ask{Kind: kind, Tvar: below(tvars+1) - below(20)/19, Val: drawnVal(below)}
}

// drawnHeap is so many values.
func drawnHeap(below func(int) int, tvars int) []api.Val {
	heap := make([]api.Val, tvars)
	for i := range heap {
		heap[i] = drawnVal(below)
	}
	return heap
}

// TestManyOrders plays many steps of four threads, in an order that is drawn, over heaps of all sizes, with wrong calls among them, and Kill: what follows holds at each step.
func TestManyOrders(t *testing.T) {
	below := numbers(3)
	told := make(map[api.Reply]int)
	for round := range 120 {
		tvars := 1 + round%api.MaxTvars
		first := drawnHeap(below, tvars)
		e := New(first)
		for len(e.Events()) < 100 && e.began() < api.MaxAttempts {
			th := below(api.MaxThreads+2) - 1
			e.Begin(th)
			if below(2) == 0 {
				e.Ask(th, drawnAsk(below, tvars, round%5 == 0))
			}
			r := stepped(t, e, th)
			told[api.Reply{Busy: r.Busy, Ended: r.Ended, Reason: r.Reason}]++
			if below(60) == 0 {
				e.Kill(th)
			}
			if r.Errno == api.OK {
				holds(t, e, first)
			}
		}
	}
	for _, r := range []api.Reply{{Busy: true}, {Ended: true}, {Ended: true, Reason: api.Changed}, {Ended: true, Reason: api.Full}, {Ended: true, Reason: api.Asked}} {
		if told[r] == 0 {
			t.Errorf("no step answered %+v: %v", r, told)
		}
	}
}

// TestAlone: as long as no other thread has an attempt, one is never busy, and never ends by Changed (P11.6).
func TestAlone(t *testing.T) {
	below := numbers(8)
	ended := make(map[api.Reason]int)
	for round := range 200 {
		tvars := 1 + round%api.MaxTvars
		first := make([]api.Val, tvars)
		e := New(first)
		for e.began() < 12 {
			th := below(api.MaxThreads)
			begin(t, e, th)
			for has := true; has && len(e.Events()) < api.MaxEvents; _, has = e.Attempt(th) {
				e.Ask(th, drawnAsk(below, tvars, false))
				r := stepped(t, e, th)
				if r.Busy || r.Reason == api.Changed {
					t.Fatalf("alone: %+v, behind %v", r, e.Events())
				}
				if r.Ended {
					ended[r.Reason]++
				}
				if below(40) == 0 {
					e.Kill(th)
				}
				if _, has := e.Attempt(th); has && len(e.Decided()) == 0 && !e.Valid(th) {
					t.Fatalf("alone, and not valid, behind %v", e.Events())
				}
			}
			if len(e.Events()) >= api.MaxEvents {
				break
			}
			holds(t, e, first)
		}
	}
	if ended[api.NoReason] < 100 || ended[api.Asked] < 100 {
		t.Errorf("only %v ended", ended)
	}
}
