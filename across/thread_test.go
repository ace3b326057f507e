package across

import (
	"slices"
	"testing"

	"rowlock/api"
	"rowlock/spec"
	"rowlock/thread"
	"rowlock/verify"
)

// store is a heap that stands still but for one thread, with a frame more for each left arm.
type store struct {
	frames [][]api.Val
	read   map[int]int // how often each variable was read
}

// storeOf is one over a heap.
func storeOf(heap []api.Val) *store {
	return &store{[][]api.Val{slices.Clone(heap)}, map[int]int{}}
}

// heap is how the variables are now.
func (s *store) heap() []api.Val { return s.frames[len(s.frames)-1] }

// do does what is asked for; false, if there is no such variable.
func (s *store) do(a api.Ask) (api.Val, bool) {
	last := len(s.frames) - 1
	switch a.Kind {
	case api.ReadIt, api.WriteIt:
		if a.Tvar >= len(s.heap()) {
			return 0, false
		}
		if a.Kind == api.WriteIt {
			s.heap()[a.Tvar] = a.Val
			break
		}
		s.read[a.Tvar]++
		return s.heap()[a.Tvar], true
	case api.PushIt:
		s.frames = append(s.frames, slices.Clone(s.heap()))
	case api.DropIt:
		s.frames = s.frames[:last]
	case api.MergeIt:
		s.frames = append(s.frames[:last-1], s.frames[last])
	}
	return 0, true
}

// toBlock lets a thread go on up to a block; false, if it comes to none within so many steps.
func toBlock(th *thread.Thread, steps int) bool {
	for range steps {
		n := th.Step()
		if n.Kind == api.BeginNeed {
			return true
		}
		if n.Kind != api.NoNeed {
			return false
		}
	}
	return false
}

// through goes through a block, and tells what it came to, as spec.Block would: with ErrFuel, if it is not at its end behind MaxFuel steps.
func through(th *thread.Thread, s *store) api.Outcome {
	ahead, heap := th.State(), slices.Clone(s.heap())
	back := func(kind api.OutcomeKind, errno api.Errno) api.Outcome {
		return api.Outcome{Kind: kind, State: ahead, Heap: heap, Errno: errno}
	}
	th.Began()
	for range api.MaxFuel {
		n := th.Step()
		switch n.Kind {
		case api.RetryNeed:
			return back(api.Retried, api.OK)
		case api.StuckNeed:
			return back(api.Stuck, n.Errno)
		case api.AskNeed:
			v, ok := s.do(n.Ask)
			if !ok {
				return back(api.Stuck, api.ErrRange)
			}
			th.Give(v)
		}
		if !th.Inside() {
			return api.Outcome{Kind: api.Finished, State: th.State(), Heap: s.heap(), Arms: th.Left()}
		}
	}
	return back(api.Stuck, api.ErrFuel)
}

// TestThreadIsSpec: P18.4: a thread's blocks come to what spec.Block tells, of programs that may be run, of such with something changed, and of any; P18.5 beside it: what was done of a block is taken back by Restart.
func TestThreadIsSpec(t *testing.T) {
	draw := numbers(18)
	told := map[api.Errno]int{}
	kinds := map[api.OutcomeKind]int{}
	for n := range 24000 {
		l, heap := drawnAny(draw), drawnHeap(draw)
		if n%2 == 0 {
			l = drawnRight(draw, draw(3) == 0)
			for range draw(3) {
				l = spoilt(draw, l)
			}
		}
		th := thread.New(l)
		for range 4 {
			if th == nil || !toBlock(th, 100) {
				break
			}
			ahead := th.State()
			want := spec.Block(l, ahead, heap, api.MaxFuel)
			if th.Inside() || th.Marks() != 0 {
				t.Fatalf("%v: ahead of a block it is in one", l)
			}
			o := through(th, storeOf(heap))
			if o.Errno == api.ErrFuel && want.Errno == api.ErrForm {
				o.Errno = want.Errno // what is wrong at the place behind MaxFuel instructions comes ahead of the fuel
			}
			if !same(o, want) {
				t.Fatalf("%v over %v comes to %+v, not %+v", l, heap, o, want)
			}
			told[o.Errno]++
			kinds[o.Kind]++
			if o.Kind != api.Finished {
				takenBack(t, th, ahead)
				break
			}
			heap = o.Heap
		}
	}
	for _, errno := range []api.Errno{api.OK, api.ErrFuel, api.ErrRange, api.ErrForm, api.ErrStack} {
		if told[errno] < 100 {
			t.Errorf("error %d was told %d times", errno, told[errno])
		}
	}
	if kinds[api.Retried] < 500 || kinds[api.Finished] < 500 {
		t.Errorf("%v", kinds)
	}
}

// takenBack starts a thread again that is in a block, and holds it against its State ahead of that.
func takenBack(t *testing.T, th *thread.Thread, ahead api.State) {
	t.Helper()
	if errno := th.Restart(); errno != api.OK {
		t.Fatalf("Restart is %d", errno)
	}
	if !sameState(th.State(), ahead) || th.Inside() || th.Marks() != 0 || len(th.Left()) != 0 || th.Needs() != (api.Need{}) {
		t.Fatalf("behind Restart it is %+v, not %+v", th.State(), ahead)
	}
}

// TestRestarts: P18.5: a thread that is started again at any step goes through its block as one that never began it.
func TestRestarts(t *testing.T) {
	draw := numbers(5)
	for range 4000 {
		l, heap := drawnRight(draw, draw(2) == 0), drawnHeap(draw)
		th := thread.New(l)
		if !toBlock(th, 300) {
			continue
		}
		ahead := th.State()
		for range 3 {
			fresh := th.Fork()
			th.Began()
			s := storeOf(drawnHeap(draw))
			for range draw(25) {
				if n := th.Step(); n.Kind == api.AskNeed && n.Ask.Kind != api.CommitIt {
					if v, ok := s.do(n.Ask); ok {
						th.Give(v)
					}
				}
			}
			takenBack(t, th, ahead)
			if n := th.Step(); n.Kind != api.BeginNeed {
				t.Fatalf("it needs %+v", n)
			}
			o, want := through(th.Fork(), storeOf(heap)), through(fresh, storeOf(heap))
			if !same(o, want) {
				t.Fatalf("%v comes to %+v, not %+v", l, o, want)
			}
		}
	}
}

// TestNeverStuck: P15.4: what may be run is stuck by fuel alone, by too much that is put out, or by an index.
func TestNeverStuck(t *testing.T) {
	draw := numbers(15)
	told := map[api.Errno]int{}
	runs := 0
	for n := range 24000 {
		l := drawnAny(draw)
		if n%4 > 0 {
			l = drawnRight(draw, draw(3) == 0)
			for range draw(3) / 2 {
				l = spoilt(draw, l)
			}
		}
		if _, errno := verify.Check(l, tvars); errno != api.OK {
			continue
		}
		runs++
		heap := drawnHeap(draw)
		o := spec.Run(l, heap, api.MaxFuel)
		told[o.Errno]++
		at := l[o.State.Pc].Op
		switch o.Errno {
		case api.OK, api.ErrFuel:
		case api.ErrSpace:
			if at != api.Out || len(o.State.Out) != api.MaxOut {
				t.Fatalf("%v: ErrSpace at %+v", l, o.State)
			}
		case api.ErrRange:
			if op := stuckAt(l, heap); at != api.Atomic || op != api.GetAt && op != api.PutAt {
				t.Fatalf("%v: ErrRange at %+v", l, o.State)
			}
		default:
			t.Fatalf("%v over %v is stuck by %d at %+v", l, heap, o.Errno, o.State)
		}
	}
	if runs < 5000 || told[api.ErrRange] < 100 || told[api.ErrFuel] < 100 || told[api.ErrSpace] < 3 {
		t.Errorf("%d may be run: %v", runs, told)
	}
}

// stuckAt is the operation at which the first block is that is not at its end, if a thread goes through its program over a heap.
func stuckAt(l []api.Ins, heap []api.Val) api.OpCode {
	th := thread.New(l)
	for toBlock(th, 1000) {
		o := through(th, storeOf(heap))
		if o.Kind != api.Finished {
			return l[th.State().Pc].Op
		}
		heap = o.Heap
	}
	return api.Nop
}
