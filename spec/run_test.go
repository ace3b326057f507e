package spec

import (
	"math"
	"slices"
	"testing"

	"rowlock/api"
)

func TestRun(t *testing.T) {
	is(t, Run(of("halt"), vals("5"), enough), api.Outcome{Kind: api.Finished, Heap: vals("5")})
	is(t, Run(of("push 3, out, halt"), nil, enough), api.Outcome{Kind: api.Finished, State: api.State{Pc: 2, Out: vals("3")}})
	is(t, Run(of("atomic 4, get 0, push 1, put 0, end, out, halt"), vals("5 6"), enough), api.Outcome{Kind: api.Finished, State: api.State{Pc: 6, Out: vals("5")}, Heap: vals("1 6")})
	two := of("atomic 4, orelse 2, else 3, endor, end, nop, atomic 11, orelse 9, retry, else 10, endor, end, halt")
	is(t, Run(two, vals("5"), enough), api.Outcome{Kind: api.Finished, State: api.State{Pc: 12}, Heap: vals("5"), Arms: []bool{true, false}})
	// What is on the stack, and in the locals, goes on from block to block.
	three := of("push 7, set 2, atomic 4, get 0, end, atomic 8, local 2, put 0, end, atomic 11, get 0, end, add, out, halt")
	is(t, Run(three, vals("5"), enough), api.Outcome{Kind: api.Finished, State: api.State{Pc: 14, Locals: [4]api.Val{2: vals("7")[0]}, Out: vals("12")}, Heap: vals("7")})
}

// TestRunEnds: what is not at its end is told with the heap, and with the arms of the blocks that were Finished.
func TestRunEnds(t *testing.T) {
	first := "atomic 6, orelse 4, push 3, put 0, else 5, endor, end, push 8, "
	arms := []bool{true}
	behind := func(pc int, stack string) api.State { return api.State{Pc: pc, Stack: vals(stack)} }
	// Outside: the State where it is stuck.
	for text, errno := range map[string]api.Errno{"add": api.ErrStack, "get 0": api.ErrForm, "jump 60": api.ErrRange, "end": api.ErrForm} {
		is(t, Run(of(first+text), vals("5"), enough), api.Outcome{Kind: api.Stuck, State: behind(8, "8"), Heap: vals("3"), Arms: arms, Errno: errno})
	}
	is(t, Run(of(first+"jump 9"), vals("5"), enough), api.Outcome{Kind: api.Stuck, State: behind(9, "8"), Heap: vals("3"), Arms: arms, Errno: api.ErrForm})
	// Inside: the State at the Atomic, the heap ahead of the block, without its arms.
	for text, errno := range map[string]api.Errno{"add": api.ErrStack, "get 1": api.ErrRange, "out": api.ErrForm, "jump 60": api.ErrRange, "jump 14": api.ErrFuel} {
		l := of(first + "atomic 15, orelse 11, push 6, else 12, endor, put 0, " + text + ", end, halt")
		is(t, Run(l, vals("5"), enough), api.Outcome{Kind: api.Stuck, State: behind(8, "8"), Heap: vals("3"), Arms: arms, Errno: errno})
	}
	l := of(first + "atomic 15, orelse 11, push 6, else 12, endor, put 0, retry, end, halt")
	is(t, Run(l, vals("5"), enough), api.Outcome{Kind: api.Retried, State: behind(8, "8"), Heap: vals("3"), Arms: arms})
	is(t, Run(of("atomic 2, retry, end, halt"), vals("5"), enough), api.Outcome{Kind: api.Retried, Heap: vals("5")})
}

func TestRunNone(t *testing.T) {
	for _, l := range [][]api.Ins{nil, {}} {
		is(t, Run(l, vals("5"), enough), stuckAt(api.State{}, vals("5"), api.ErrForm))
		is(t, Run(l, nil, 1), stuckAt(api.State{}, nil, api.ErrForm))
		is(t, Run(l, vals("5"), 0), stuckAt(api.State{}, vals("5"), api.ErrFuel))
	}
}

// TestRunFuel: each part has all the fuel.
func TestRunFuel(t *testing.T) {
	l := of("nop, nop, nop, atomic 6, nop, nop, end, nop, nop, nop, atomic 13, nop, nop, end, nop, nop, nop, halt")
	for _, fuel := range []int{3, 4, enough, math.MaxInt} {
		is(t, Run(l, vals("5"), fuel), api.Outcome{Kind: api.Finished, State: api.State{Pc: 17}, Heap: vals("5")})
	}
	is(t, Run(l, vals("5"), 2), stuckAt(api.State{Pc: 2}, vals("5"), api.ErrFuel))
	is(t, Run(l[3:], vals("5"), 2), stuckAt(api.State{}, vals("5"), api.ErrFuel))
	for _, fuel := range []int{math.MinInt, -1, 0} {
		is(t, Run(l, vals("5"), fuel), stuckAt(api.State{}, vals("5"), api.ErrFuel))
		is(t, Run(of("atomic 1, end, halt"), vals("5"), fuel), stuckAt(api.State{}, vals("5"), api.ErrFuel))
		is(t, Run(of("halt"), vals("5"), fuel), api.Outcome{Kind: api.Finished, Heap: vals("5")})
	}
	is(t, Run(of("jump 0"), vals("5"), math.MaxInt), stuckAt(api.State{}, vals("5"), api.ErrFuel))
	is(t, Run(of("atomic 2, jump 1, end"), vals("5"), math.MaxInt), stuckAt(api.State{}, vals("5"), api.ErrFuel))
}

// TestRunBlocks: at most 20 blocks are done.
func TestRunBlocks(t *testing.T) {
	for n := range 23 {
		l := of(times(n, "atomic 1, get 0, push 1, add, put 0, end") + "push 9, out, halt")
		want := api.Outcome{Kind: api.Finished, State: api.State{Pc: 6*n + 2, Out: vals("9")}, Heap: ones(n + 1)[n:]}
		if n > 20 {
			want = stuckAt(api.State{Pc: 120}, vals("21"), api.ErrFuel)
		}
		is(t, Run(l, vals("1"), enough), want)
	}
	// Again and again the same one.
	l := of("atomic 4, orelse 2, else 3, endor, end, local 0, push 1, add, set 0, jump 0")
	want := stuckAt(api.State{Locals: [4]api.Val(vals("20 0 0 0"))}, vals("5"), api.ErrFuel)
	want.Arms = slices.Repeat([]bool{true}, 20)
	is(t, Run(l, vals("5"), 5), want)
}

// TestRunLastBlock: the one behind the 20th is not begun: what it would come to is of no matter.
func TestRunLastBlock(t *testing.T) {
	rows := []struct {
		text string
		want api.Outcome
	}{{"retry", api.Outcome{Kind: api.Retried}}, {"add", api.Outcome{Kind: api.Stuck, Errno: api.ErrStack}}, {"out", api.Outcome{Kind: api.Stuck, Errno: api.ErrForm}}}
	for _, r := range rows {
		l := of(times(20, "atomic 1, end") + "atomic 1, " + r.text + ", end, halt")
		is(t, Run(l, nil, enough), stuckAt(api.State{Pc: 40}, nil, api.ErrFuel))
		r.want.State.Pc = 38
		is(t, Run(l[2:], nil, enough), r.want)
	}
}
