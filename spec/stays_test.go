package spec

import (
	"slices"
	"testing"

	"rowlock/api"
)

// handed is what is handed in, with spare room behind each list, which has something in it.
type handed struct {
	l           []api.Ins
	stack, outs []api.Val
	heap        []api.Val
}

// roomy is l, and behind its end something that nobody may touch.
func roomy[T any](l []T, more T) []T {
	return append(slices.Clone(l), more, more, more, more, more)[:len(l)]
}

// handedOf is a program, a stack and a heap with room behind them.
func handedOf(text, stack, heap string) handed {
	return handed{roomy(of(text), api.Ins{Op: 77}), roomy(vals(stack), 77), roomy(vals("8 9"), 77), roomy(vals(heap), 77)}
}

// whole are all its values, what is behind the ends too.
func (h handed) whole() [][]api.Val {
	return [][]api.Val{slices.Clone(h.stack[:cap(h.stack)]), slices.Clone(h.outs[:cap(h.outs)]), slices.Clone(h.heap[:cap(h.heap)])}
}

// spoil changes each value that is handed in.
func (h handed) spoil() {
	for _, l := range [][]api.Val{h.stack, h.outs, h.heap} {
		for at := range l[:cap(l)] {
			l[:cap(l)][at] = 66
		}
	}
	clear(h.l)
}

// cloned is an Outcome with lists of its own.
func cloned(o api.Outcome) api.Outcome {
	o.State, o.Heap, o.Arms = copied(o.State), slices.Clone(o.Heap), slices.Clone(o.Arms)
	return o
}

// fill writes over all of an Outcome's lists, the room behind them too; it tells whether these are lists of their own.
func fill(o api.Outcome) bool {
	lists := [][]api.Val{o.State.Stack, o.State.Out, o.Heap}
	for n, l := range lists {
		for at := range l[:cap(l)] {
			l[:cap(l)][at] = api.Val(n + 1)
		}
	}
	for n, l := range lists {
		for _, v := range l[:cap(l)] {
			if v != api.Val(n+1) {
				return false
			}
		}
	}
	return true
}

// TestStays: P3: what is handed in stays as it is, what is behind its end too; what is answered is the caller's.
func TestStays(t *testing.T) {
	calls := map[string]func(h handed, s api.State) api.Outcome{
		"Step": func(h handed, s api.State) api.Outcome {
			s, errno := Step(h.l, s)
			return api.Outcome{State: s, Errno: errno}
		},
		"Plain": func(h handed, s api.State) api.Outcome { return Plain(h.l, s, enough) },
		"Block": func(h handed, s api.State) api.Outcome { return Block(h.l, s, h.heap, enough) },
		"Run":   func(h handed, s api.State) api.Outcome { return Run(h.l, h.heap, enough) },
	}
	texts := []string{
		"nop, halt", "dup, out, push 3, out, halt", "swap, add, halt", "pop, set 1, push 1, add, jump 0", "halt", "",
		"atomic 1, end, halt", "atomic 4, push 3, put 0, get 1, end, out, halt", "atomic 4, push 3, put 0, retry, end", "atomic 4, push 3, put 0, out, end",
		"atomic 9, orelse 6, push 3, put 0, push 4, retry, else 8, get 0, endor, end, out, halt", "atomic 9, orelse 6, push 3, put 0, push 4, nop, else 8, get 0, endor, end, out, halt",
		"atomic 9, orelse 6, push 3, put 0, push 4, retry, else 8, retry, endor, end, out, halt",
		"atomic 5, get 0, push 1, add, put 0, end, atomic 8, get 1, end, out, atomic 12, get 1, end, out, jump 0",
	}
	for name, call := range calls {
		for _, text := range texts {
			for _, stack := range []string{"", "4 5", "4 5 6 7"} {
				h := handedOf(text, stack, "6 7 8")
				s := api.State{Stack: h.stack, Out: h.outs}
				was, program := h.whole(), slices.Clone(h.l[:cap(h.l)])
				o := call(h, s)
				if !slices.Equal(h.l[:cap(h.l)], program) || !slices.EqualFunc(h.whole(), was, slices.Equal) {
					t.Errorf("%s of %s has changed what was handed in", name, text)
				}
				kept := cloned(o)
				again := call(h, s)
				is(t, again, kept)
				if !fill(again) || !slices.EqualFunc(h.whole(), was, slices.Equal) {
					t.Errorf("%s of %s: lists of its answer are not its own", name, text)
				}
				h.spoil()
				is(t, o, kept)
			}
		}
	}
}
