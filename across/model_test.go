package across

import (
	"slices"
	"testing"

	"rowlock/api"
	"rowlock/spec"
)

// result is how a part of a block ends.
type result int

const (
	ended result = iota
	retried
	stuck
)

// world is where a block is, as seen from its brackets: a part is done up to what closes it, arms by calls within calls.
type world struct {
	l     []api.Ins
	s     api.State
	heap  []api.Val
	arms  []bool
	fuel  int
	errno api.Errno
}

// copied is a State with lists of its own.
func copied(s api.State) api.State {
	s.Stack, s.Out = slices.Clone(s.Stack), slices.Clone(s.Out)
	return s
}

// pop takes the uppermost value.
func (w *world) pop() api.Val {
	last := len(w.s.Stack) - 1
	v := w.s.Stack[last]
	w.s.Stack = w.s.Stack[:last:last]
	return v
}

// part does what stands within one bracket, from the instruction behind its beginning on. Of a program that may be run nothing is in its way but fuel and indexes.
func (w *world) part() result {
	for {
		if w.fuel == 0 {
			w.errno = api.ErrFuel
			return stuck
		}
		w.fuel--
		i := w.l[w.s.Pc]
		switch i.Op {
		case api.End, api.EndOr:
			w.s.Pc++
			return ended
		case api.Else:
			w.s.Pc = i.Arg + 1
			return ended
		case api.Retry:
			return retried
		case api.OrElse:
			if r := w.either(i); r != ended {
				return r
			}
		case api.Get, api.Put, api.GetAt, api.PutAt:
			if !w.reach(i) {
				w.errno = api.ErrRange
				return stuck
			}
		default:
			w.s, w.errno = spec.Step(w.l, w.s)
			if w.errno != api.OK {
				return stuck
			}
		}
	}
}

// either does the left arm, or else the right one.
func (w *world) either(i api.Ins) result {
	s, heap := copied(w.s), slices.Clone(w.heap)
	w.s.Pc++
	r := w.part()
	if r == ended {
		w.arms = append(w.arms, true)
	}
	if r != retried {
		return r
	}
	w.s, w.heap = s, heap
	w.s.Pc = i.Arg + 1
	r = w.part()
	if r == ended {
		w.arms = append(w.arms, false)
	}
	return r
}

// reach reads or writes a variable; false, if its index is none.
func (w *world) reach(i api.Ins) bool {
	tvar := i.Arg
	if i.Op == api.GetAt || i.Op == api.PutAt {
		index := slices.Index(indexes(), w.pop())
		if index < 0 || tvar+index%tvars >= len(w.heap) {
			return false
		}
		tvar += index % tvars
	}
	if i.Op == api.Get || i.Op == api.GetAt {
		w.s.Stack = append(w.s.Stack, w.heap[tvar])
	} else {
		w.heap[tvar] = w.pop()
	}
	w.s.Pc++
	return true
}

// indexes are the values that may be one: 0 to 2, and -0, which is 0.
func indexes() []api.Val {
	return []api.Val{0, api.One, 0x4000000000000000, api.NegZero}
}

// modelBlock is what a block of a program that may be run should come to.
func modelBlock(l []api.Ins, s api.State, heap []api.Val, fuel int) api.Outcome {
	w := &world{l: l, s: copied(s), heap: slices.Clone(heap), fuel: fuel}
	w.s.Pc++
	switch w.part() {
	case ended:
		return api.Outcome{Kind: api.Finished, State: w.s, Heap: w.heap, Arms: w.arms}
	case retried:
		return api.Outcome{Kind: api.Retried, State: s, Heap: heap}
	}
	return api.Outcome{Kind: api.Stuck, State: s, Heap: heap, Errno: w.errno}
}

// modelRun is what such a program should come to, block by block.
func modelRun(l []api.Ins, heap []api.Val, fuel int) api.Outcome {
	var arms []bool
	var s api.State
	for n := 0; ; n++ {
		o := spec.Plain(l, s, fuel)
		if o.Kind == api.AtBlock && n == 20 {
			o.Kind, o.Errno = api.Stuck, api.ErrFuel
		}
		if o.Kind == api.AtBlock {
			o = modelBlock(l, o.State, heap, fuel)
			if o.Kind == api.Finished {
				s, heap, arms = o.State, o.Heap, append(arms, o.Arms...)
				continue
			}
		}
		o.Heap, o.Arms = heap, arms
		return o
	}
}

// sameState tells whether two States are the same.
func sameState(a, b api.State) bool {
	return a.Pc == b.Pc && slices.Equal(a.Stack, b.Stack) && a.Locals == b.Locals && slices.Equal(a.Out, b.Out)
}

// same tells whether two Outcomes are the same.
func same(a, b api.Outcome) bool {
	return a.Kind == b.Kind && a.Errno == b.Errno && sameState(a.State, b.State) && slices.Equal(a.Heap, b.Heap) && slices.Equal(a.Arms, b.Arms)
}

// TestMeaning: P17.2, P17.3: blocks and runs of programs that may be run come to what their brackets say, with all kinds of fuel.
func TestMeaning(t *testing.T) {
	draw := numbers(17)
	told := map[api.Errno]int{}
	kinds := map[api.OutcomeKind]int{}
	for range 8000 {
		l, heap, fuel := drawnRight(draw, draw(3) == 0), drawnHeap(draw), api.MaxFuel
		if draw(3) == 0 {
			fuel = draw(30)
		}
		o, want := spec.Run(l, heap, fuel), modelRun(l, heap, fuel)
		if !same(o, want) {
			t.Fatalf("Run(%v, %v, %d) is %+v, not %+v", l, heap, fuel, o, want)
		}
		told[o.Errno]++
		kinds[o.Kind]++
	}
	for _, errno := range []api.Errno{api.OK, api.ErrFuel, api.ErrRange, api.ErrSpace} {
		if told[errno] < 3 {
			t.Errorf("error %d was told %d times", errno, told[errno])
		}
	}
	if kinds[api.Retried] < 300 || kinds[api.Finished] < 300 {
		t.Errorf("%v", kinds)
	}
}
