package across

import (
	"slices"
	"testing"

	"rowlock/api"
	"rowlock/history"
	"rowlock/norec"
	"rowlock/opaque"
	"rowlock/spec"
	"rowlock/thread"
	"rowlock/tl2"
)

// engine is what tl2 and norec both have.
type engine interface {
	Begin(th int) (int, api.Errno)
	Ask(th int, a api.Ask) api.Errno
	Step(th int) api.Reply
	Kill(th int) api.Errno
	Heap() []api.Val
	Events() []api.Event
	Order() []int
	Decided() []int
	Asked(th int) (api.Ask, bool)
	Holds(th int) bool
}

// done is a block that was committed: whose it was, and the thread ahead of it and behind it.
type done struct {
	who          int
	ahead, after api.State
	left         []bool
}

// shop is some threads over an engine.
type shop struct {
	t       *testing.T
	e       engine
	code    [][]api.Ins
	threads []*thread.Thread
	over    []bool // it halts, or can't go on
	ahead   []api.State
	number  []int // of its attempt
	blocks  map[int]done
}

// shopOf is one over an engine.
func shopOf(t *testing.T, e engine, code [][]api.Ins) *shop {
	n := len(code)
	s := &shop{t: t, e: e, code: code, over: make([]bool, n), ahead: make([]api.State, n), number: make([]int, n), blocks: map[int]done{}}
	for _, l := range code {
		s.threads = append(s.threads, thread.New(l))
	}
	return s
}

// step lets a thread do one thing.
func (s *shop) step(who int, kills bool) {
	if s.over[who] {
		return
	}
	if _, ok := s.e.Asked(who); ok {
		s.goOn(who, kills)
		return
	}
	th := s.threads[who]
	switch n := th.Step(); n.Kind {
	case api.BeginNeed:
		s.begin(who)
	case api.AskNeed:
		if s.e.Ask(who, n.Ask) != api.OK {
			s.giveUp(who)
			s.over[who] = true
		}
	case api.RetryNeed:
		s.giveUp(who)
	case api.StuckNeed:
		if th.Inside() {
			s.giveUp(who)
		}
		s.over[who] = true
	case api.HaltNeed:
		s.over[who] = true
	}
}

// begin begins an attempt, if the engine lets it.
func (s *shop) begin(who int) {
	number, errno := s.e.Begin(who)
	switch errno {
	case api.OK:
		s.ahead[who], s.number[who] = s.threads[who].State(), number
		s.threads[who].Began()
	case api.ErrSpace:
		s.over[who] = true
	}
}

// goOn steps what is asked for.
func (s *shop) goOn(who int, kills bool) {
	r := s.e.Step(who)
	switch {
	case r.Busy && kills && s.e.Kill(r.Owner) == api.OK:
		s.back(r.Owner)
	case r.Done && (!r.Ended || r.Reason == api.NoReason):
		th := s.threads[who]
		th.Give(r.Val)
		if r.Ended {
			s.blocks[s.number[who]] = done{who, s.ahead[who], th.State(), th.Left()}
		}
	case r.Done:
		s.back(who)
		s.over[who] = r.Reason == api.Full
	}
}

// giveUp asks for an abort, and goes back.
func (s *shop) giveUp(who int) {
	if errno := s.e.Ask(who, api.Ask{Kind: api.AbortIt}); errno != api.OK {
		s.t.Fatalf("AbortIt is %d", errno)
	}
	s.e.Step(who)
	s.back(who)
}

// back starts a thread again whose attempt was aborted: nothing of it is left (P18.5, E4).
func (s *shop) back(who int) { takenBack(s.t, s.threads[who], s.ahead[who]) }

// holds holds all against E3: the blocks that were committed, one at a time by spec in the engine's order, come to what they came to. It tells how many these are.
func (s *shop) holds(first []api.Val) int {
	s.t.Helper()
	events, heap, n := s.e.Events(), slices.Clone(first), 0
	if len(events) > api.MaxEvents {
		return 0
	}
	if _, errno := opaque.Legal(events, first, s.e.Order(), s.e.Decided()); errno != api.OK {
		s.t.Fatalf("the order is not legal: %d", errno)
	}
	for _, number := range s.e.Order() {
		if history.StateOf(events, number) != api.Success {
			continue
		}
		d := s.blocks[number]
		o := spec.Block(s.code[d.who], d.ahead, heap, api.MaxFuel)
		if o.Errno == api.ErrFuel {
			return n
		}
		if o.Kind != api.Finished || !sameState(o.State, d.after) || !slices.Equal(o.Arms, d.left) {
			s.t.Fatalf("attempt %d came to %+v, but alone it comes to %+v", number, d, o)
		}
		heap = o.Heap
		n++
	}
	for who := range s.threads {
		if s.e.Holds(who) {
			return n
		}
	}
	if !slices.Equal(heap, s.e.Heap()) {
		s.t.Fatalf("the heap is %v, not %v", s.e.Heap(), heap)
	}
	return n
}

// TestOneBehindTheOther: E3, E4: threads over both engines, in drawn orders of steps, with and without kills.
func TestOneBehindTheOther(t *testing.T) {
	draw := numbers(3)
	blocks, together := 0, 0
	for n := range 1500 {
		first := drawnHeap(draw)
		var code [][]api.Ins
		for range 1 + draw(4) {
			code = append(code, drawnRight(draw, draw(3) == 0))
		}
		var e engine = norec.New(first)
		if n%2 == 0 {
			e = tl2.New(first, 1+draw(4))
		}
		s := shopOf(t, e, code)
		kills := draw(2) == 0
		for range 600 {
			s.step(draw(len(code)), kills)
		}
		k := s.holds(first)
		blocks += k
		if len(code) > 1 && k > 1 {
			together++
		}
	}
	if blocks < 1500 || together < 300 {
		t.Errorf("%d blocks, %d runs of several", blocks, together)
	}
}

// TestTwoAdd: the document's first example: two threads that both add 1 come to 2, whatever the order of steps.
func TestTwoAdd(t *testing.T) {
	l := []api.Ins{{Op: api.Atomic, Arg: 5}, {Op: api.Get}, {Op: api.Push, Val: api.One}, {Op: api.Add}, {Op: api.Put}, {Op: api.End}, {Op: api.Halt}}
	draw := numbers(9)
	for n := range 200 {
		var e engine = norec.New([]api.Val{0})
		if n%2 == 0 {
			e = tl2.New([]api.Val{0}, 1)
		}
		s := shopOf(t, e, [][]api.Ins{l, l})
		for range 1000 {
			s.step(draw(2), false)
		}
		if s.holds([]api.Val{0}) != 2 || e.Heap()[0] != 0x4000000000000000 {
			t.Fatalf("it is %v", e.Heap())
		}
	}
}
