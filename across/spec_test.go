package across

import (
	"slices"
	"testing"

	"rowlock/api"
	"rowlock/spec"
	"rowlock/thread"
)

// blocksOf calls try with a thread that is ahead of a block, for each block that a run of its program over a heap comes to; with the heap then, and with what spec says of the block.
func blocksOf(l []api.Ins, heap []api.Val, try func(th *thread.Thread, heap []api.Val, o api.Outcome)) {
	th := thread.New(l)
	for range 5 {
		if !toBlock(th, 300) {
			return
		}
		o := spec.Block(l, th.State(), heap, api.MaxFuel)
		try(th.Fork(), heap, o)
		if o.Kind != api.Finished {
			return
		}
		heap = through(th, storeOf(heap)).Heap
	}
}

// TestNothingChanges: P17.4, E4: what is Retried or Stuck changes nothing; and a run behind which it comes is a run up to it.
func TestNothingChanges(t *testing.T) {
	draw := numbers(174)
	seen := map[api.OutcomeKind]int{}
	for n := range 6000 {
		l, first := drawnAny(draw), drawnHeap(draw)
		if n%2 == 0 {
			l = drawnRight(draw, draw(3) == 0)
		}
		blocksOf(l, first, func(th *thread.Thread, heap []api.Val, o api.Outcome) {
			s := th.State()
			seen[o.Kind]++
			if o.Kind == api.Finished {
				return
			}
			if !sameState(o.State, s) || !slices.Equal(o.Heap, heap) || len(o.Arms) != 0 {
				t.Fatalf("%v over %v is %+v", l, heap, o)
			}
			if r := spec.Run(l, first, api.MaxFuel); r.Kind != o.Kind || r.Errno != o.Errno || !sameState(r.State, s) || !slices.Equal(r.Heap, heap) {
				t.Fatalf("Run of %v over %v is %+v, not as %+v", l, first, r, o)
			}
		})
	}
	if seen[api.Retried] < 300 || seen[api.Stuck] < 300 {
		t.Errorf("%v", seen)
	}
}

// lazy is a program whose left arms retry at once.
func lazy(l []api.Ins) []api.Ins {
	l = slices.Clone(l)
	for at, i := range l {
		if i.Op == api.OrElse {
			l[at+1] = api.Ins{Op: api.Retry}
		}
	}
	return l
}

// TestLeavesNothing: P17.5, E4: left arms that do much, and retry then, leave what those leave that retry at once.
func TestLeavesNothing(t *testing.T) {
	draw := numbers(175)
	took := 0
	for range 6000 {
		l := drawnRight(draw, true)
		blocksOf(l, drawnHeap(draw), func(th *thread.Thread, heap []api.Val, o api.Outcome) {
			if o.Kind == api.Stuck {
				return
			}
			if slices.Contains(o.Arms, false) {
				took++
			}
			if slices.Contains(o.Arms, true) {
				t.Fatalf("%v: a left arm came to its end", l)
			}
			other := spec.Block(lazy(l), th.State(), heap, api.MaxFuel)
			if o.Kind != other.Kind || !sameState(o.State, other.State) || !slices.Equal(o.Heap, other.Heap) {
				t.Fatalf("%v over %v is %+v, not %+v", l, heap, o, other)
			}
		})
	}
	if took < 300 {
		t.Errorf("just %d blocks took a right arm", took)
	}
}

// TestHangsOnReads: P17.6: a block does the same over heaps that differ in variables that it does not read; of these it leaves those alone that it does not write.
func TestHangsOnReads(t *testing.T) {
	draw := numbers(176)
	unlike := 0
	for range 6000 {
		l := drawnRight(draw, draw(3) == 0)
		blocksOf(l, drawnHeap(draw), func(th *thread.Thread, heap []api.Val, o api.Outcome) {
			s, store, other := th.State(), storeOf(heap), slices.Clone(heap)
			through(th, store)
			for tvar := range other {
				if store.read[tvar] == 0 {
					other[tvar] = drawnVal(draw)
				}
			}
			if !slices.Equal(heap, other) {
				unlike++
			}
			p := spec.Block(l, s, other, api.MaxFuel)
			if p.Kind != o.Kind || p.Errno != o.Errno || !sameState(p.State, o.State) || !slices.Equal(p.Arms, o.Arms) {
				t.Fatalf("%v over %v is %+v, but over %v %+v", l, heap, o, other, p)
			}
			for tvar := range heap {
				if p.Heap[tvar] != o.Heap[tvar] && (p.Heap[tvar] != other[tvar] || o.Heap[tvar] != heap[tvar]) {
					t.Fatalf("%v leaves %v over %v, and %v over %v", l, o.Heap, heap, p.Heap, other)
				}
			}
		})
	}
	if unlike < 1000 {
		t.Errorf("just %d heaps were unlike", unlike)
	}
}
