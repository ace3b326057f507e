package spec

import (
	"math"
	"testing"

	"rowlock/api"
)

// enough is fuel for all that these tests do at once.
const enough = api.MaxFuel

func TestPlain(t *testing.T) {
	s := api.State{Stack: vals("4"), Locals: [4]api.Val(vals("1 2 3 4")), Out: vals("9")}
	at := func(pc int) api.State {
		s := s
		s.Pc = pc
		return s
	}
	is(t, Plain(of("halt"), s, enough), api.Outcome{Kind: api.Finished, State: s})
	is(t, Plain(of("atomic 1, end"), s, enough), api.Outcome{Kind: api.AtBlock, State: s})
	is(t, Plain(of("nop, nop, halt, nop"), s, enough), api.Outcome{Kind: api.Finished, State: at(2)})
	is(t, Plain(of("nop, nop, atomic 3, end, halt"), s, enough), api.Outcome{Kind: api.AtBlock, State: at(2)})
	is(t, Plain(of("nop, atomic 2, end, nop, halt"), at(3), enough), api.Outcome{Kind: api.Finished, State: at(4)})
	is(t, Plain(of("jump 2, halt, atomic 3, end"), s, enough), api.Outcome{Kind: api.AtBlock, State: at(2)})
	behind := api.State{Pc: 5, Stack: vals("4"), Locals: [4]api.Val(vals("6 2 3 4")), Out: vals("9 6")}
	is(t, Plain(of("push 6, dup, set 0, out, nop, halt"), s, enough), api.Outcome{Kind: api.Finished, State: behind})
}

// TestPlainNotRight: an Atomic is one, and a Halt, also where it is not right.
func TestPlainNotRight(t *testing.T) {
	is(t, Plain([]api.Ins{{Op: api.Atomic, Arg: -1, Val: 3}}, api.State{}, enough), api.Outcome{Kind: api.AtBlock})
	is(t, Plain([]api.Ins{{Op: api.Halt, Arg: 3}}, api.State{}, enough), api.Outcome{Kind: api.Finished})
	for _, w := range wrongs() {
		is(t, Plain([]api.Ins{{}, w}, api.State{}, enough), stuckAt(api.State{Pc: 1}, nil, api.ErrForm))
		is(t, Plain([]api.Ins{{}, w}, api.State{}, 1), stuckAt(api.State{Pc: 1}, nil, api.ErrFuel))
	}
}

// TestPlainStuck: by Step's error, with the State as it was there.
func TestPlainStuck(t *testing.T) {
	rows := []struct {
		text, stack string
		pc          int
		errno       api.Errno
	}{
		{"nop, nop", "", 2, api.ErrForm}, {"push 3, get 0", "3", 1, api.ErrForm}, {"push 3, end", "3", 1, api.ErrForm}, {"retry", "", 0, api.ErrForm}, {"endor", "", 0, api.ErrForm},
		{"push 3, pop, add", "", 2, api.ErrStack}, {"push 3, add", "3", 1, api.ErrStack}, {times(13, "push 2"), "2 2 2 2 2 2 2 2 2 2 2 2", 12, api.ErrStack},
		{"push 3, jump 9", "3", 1, api.ErrRange}, {"push 3, push 0, zero 9", "3 0", 2, api.ErrRange}, {"push 3, jump 2", "3", 2, api.ErrForm}, {"push 0, zero 2", "", 2, api.ErrForm},
	}
	for _, r := range rows {
		is(t, Plain(of(r.text), api.State{}, enough), stuckAt(api.State{Pc: r.pc, Stack: vals(r.stack)}, nil, r.errno))
	}
	for _, at := range []int{math.MinInt, -1, 1, 2, math.MaxInt} {
		is(t, Plain(of("halt"), api.State{Pc: at, Stack: ones(3)}, 1), stuckAt(api.State{Pc: at, Stack: ones(3)}, nil, api.ErrForm))
		is(t, Plain(of("halt"), api.State{Pc: at, Stack: ones(3)}, 0), stuckAt(api.State{Pc: at, Stack: ones(3)}, nil, api.ErrFuel))
	}
	is(t, Plain(nil, api.State{}, 1), stuckAt(api.State{}, nil, api.ErrForm))
	is(t, Plain(nil, api.State{}, 0), stuckAt(api.State{}, nil, api.ErrFuel))
	is(t, Plain(of("out"), api.State{Stack: ones(1), Out: ones(24)}, 1), stuckAt(api.State{Stack: ones(1), Out: ones(24)}, nil, api.ErrSpace))
	is(t, Plain(of("push 1, out, jump 0"), api.State{}, enough), stuckAt(api.State{Pc: 1, Stack: ones(1), Out: vals("1 1 1 1 1 1 1 1 1 1 1 1 1 1 1 1 1 1 1 1 1 1 1 1")}, nil, api.ErrSpace))
}

// TestPlainFuel: each Step takes one; where it stops none is needed.
func TestPlainFuel(t *testing.T) {
	for n := range 5 {
		for _, end := range []string{"halt", "atomic 9"} {
			l := of(times(n, "nop") + end)
			kind := map[string]api.OutcomeKind{"halt": api.Finished, "atomic 9": api.AtBlock}[end]
			for _, fuel := range []int{n, n + 1, enough, enough + 1, math.MaxInt} {
				is(t, Plain(l, api.State{}, fuel), api.Outcome{Kind: kind, State: api.State{Pc: n}})
			}
			for fuel := range n {
				is(t, Plain(l, api.State{}, fuel), stuckAt(api.State{Pc: fuel}, nil, api.ErrFuel))
			}
			for _, fuel := range []int{math.MinInt, -1} {
				if n > 0 {
					is(t, Plain(l, api.State{}, fuel), stuckAt(api.State{}, nil, api.ErrFuel))
				} else {
					is(t, Plain(l, api.State{}, fuel), api.Outcome{Kind: kind})
				}
			}
		}
	}
	// No more than MaxFuel are done, whatever fuel there is.
	for _, fuel := range []int{enough, enough + 1, 5000, math.MaxInt} {
		is(t, Plain(of(times(api.MaxFuel, "nop")+"halt"), api.State{}, fuel), api.Outcome{Kind: api.Finished, State: api.State{Pc: api.MaxFuel}})
		is(t, Plain(of(times(api.MaxFuel+1, "nop")+"halt"), api.State{}, fuel), stuckAt(api.State{Pc: api.MaxFuel}, nil, api.ErrFuel))
		is(t, Plain(of("jump 0"), api.State{}, fuel), stuckAt(api.State{}, nil, api.ErrFuel))
	}
	is(t, Plain(of(times(api.MaxFuel, "nop")+"halt"), api.State{}, enough-1), stuckAt(api.State{Pc: enough - 1}, nil, api.ErrFuel))
}
