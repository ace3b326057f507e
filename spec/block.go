package spec

import (
	"slices"

	"rowlock/api"
	"rowlock/value"
)

// block is a walk through a block, over a heap of its own.
type block struct {
	walk
	heap []api.Val
	left []func() // of each left arm that is begun, innermost last: goes back to where it began, and on to the right one
	arms []bool
}

// toEnd goes on from the Atomic up to an End.
func (b *block) toEnd() api.OutcomeKind {
	need(b.standsAt(api.Atomic), api.ErrForm)
	b.Pc++
	for {
		i := b.here()
		b.burn()
		b.do(i)
		if i.Op == api.End {
			return api.Finished
		}
	}
}

// do does one instruction. What is put out, and a halt, could not be taken back: a block has neither.
func (b *block) do(i api.Ins) {
	switch i.Op {
	case api.Out, api.Halt, api.Atomic:
		panic(stuck{api.ErrForm})
	case api.Get, api.Put, api.GetAt, api.PutAt:
		b.reach(i)
	case api.End, api.OrElse, api.Else, api.EndOr, api.Retry:
		b.popped(i.Op) // they pop nothing, but a stack that is too high is wrong here, too
		b.bracket(i)
	default:
		b.step()
	}
}

// reach reads or writes a variable.
func (b *block) reach(i api.Ins) {
	popped := b.popped(i.Op)
	tvar := b.variable(i, popped)
	switch i.Op {
	case api.Get, api.GetAt:
		b.exchange(len(popped), b.heap[tvar])
	case api.Put, api.PutAt:
		b.heap[tvar] = popped[0]
		b.exchange(len(popped))
	}
	b.Pc++
}

// variable is the one that an instruction names, by its Arg, or by that and the uppermost value; it gives up, unless the heap has it.
func (b *block) variable(i api.Ins, popped []api.Val) int {
	index := 0
	if i.Op == api.GetAt || i.Op == api.PutAt {
		n, ok := value.Whole(popped[len(popped)-1])
		need(ok && n >= 0, api.ErrRange)
		index = n
	}
	need(i.Arg+index < len(b.heap), api.ErrRange)
	return i.Arg + index
}

// bracket goes on at an end, at an arm, or where it is to be retried.
func (b *block) bracket(i api.Ins) {
	switch i.Op {
	case api.OrElse:
		b.begin(i.Arg)
	case api.Else:
		b.innermost()
		b.arms = append(b.arms, true)
		b.Pc = i.Arg
	case api.EndOr:
		b.arms = append(b.arms, false)
	case api.Retry:
		b.retry()
		return
	}
	b.Pc++
}

// begin begins a left arm that ends at a place: all that it may change is kept.
func (b *block) begin(end int) {
	state, heap := copied(b.State), slices.Clone(b.heap)
	b.left = append(b.left, func() {
		b.State, b.heap = state, heap
		b.Pc = end + 1
	})
}

// innermost is the way back of the innermost left arm that is begun, which is at its end now.
func (b *block) innermost() func() {
	last := len(b.left) - 1
	need(last >= 0, api.ErrForm)
	back := b.left[last]
	b.left = b.left[:last]
	return back
}

// retry goes on with the right arm instead of the innermost left one; without one the whole block is to be retried.
func (b *block) retry() {
	if len(b.left) == 0 {
		panic(retried{})
	}
	b.innermost()()
}
