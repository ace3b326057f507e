package spec

import (
	"slices"

	"rowlock/api"
	"rowlock/code"
	"rowlock/value"
)

// walk is a State on its way through a program, with the fuel that is left. No list of the State is anybody else's, so that it is changed in place; and it changes only where nothing is wrong any more, so that it is left as it was where it gets stuck.
type walk struct {
	api.State
	program []api.Ins
	fuel    int
}

// walkOf is the way from a State on.
func walkOf(l []api.Ins, s api.State, fuel int) walk {
	return walk{State: copied(s), program: l, fuel: min(fuel, api.MaxFuel)}
}

// copied is a State with lists of its own.
func copied(s api.State) api.State {
	s.Stack, s.Out = slices.Clone(s.Stack), slices.Clone(s.Out)
	return s
}

// toBlock goes on up to an Atomic, or a Halt.
func (w *walk) toBlock() api.OutcomeKind {
	for {
		switch {
		case w.standsAt(api.Atomic):
			return api.AtBlock
		case w.standsAt(api.Halt):
			return api.Finished
		}
		w.burn()
		w.step()
	}
}

// isPlace tells whether there is an instruction at Pc.
func (w *walk) isPlace() bool { return 0 <= w.Pc && w.Pc < len(w.program) }

// standsAt tells whether there is one of an operation.
func (w *walk) standsAt(o api.OpCode) bool { return w.isPlace() && w.program[w.Pc].Op == o }

// here is the instruction at Pc, if it is right.
func (w *walk) here() api.Ins {
	need(w.isPlace() && code.Right(w.program[w.Pc]), api.ErrForm)
	return w.program[w.Pc]
}

// burn takes the fuel of one instruction.
func (w *walk) burn() {
	need(w.fuel > 0, api.ErrFuel)
	w.fuel--
}

// step does the instruction at Pc, if it is one that hangs on the State alone.
func (w *walk) step() {
	i := w.here()
	need(hangsOnState(i.Op), api.ErrForm)
	popped := w.popped(i.Op)
	next := w.Pc + 1
	switch i.Op {
	case api.Out:
		need(len(w.Out) < api.MaxOut, api.ErrSpace)
		w.Out = append(w.Out, popped[0])
	case api.SetLocal:
		w.Locals[i.Arg] = popped[0]
	case api.Jump:
		next = w.target(i.Arg)
	case api.IfZero:
		if !value.Truth(popped[0]) {
			next = w.target(i.Arg)
		}
	}
	w.exchange(len(popped), w.pushed(i, popped)...)
	w.Pc = next
}

// hangsOnState tells whether an operation does what it does to any State, without variables and brackets.
func hangsOnState(o api.OpCode) bool {
	switch o {
	case api.Get, api.Put, api.GetAt, api.PutAt, api.Retry, api.Halt:
		return false
	case api.Atomic, api.End, api.OrElse, api.Else, api.EndOr:
		return false
	}
	return true
}

// target is a place to go on at. It may be the one behind the last instruction: that is wrong only for who goes on there.
func (w *walk) target(at int) int {
	need(at <= len(w.program), api.ErrRange)
	return at
}

// popped are the values that an operation pops, the uppermost one last, if they are there, and what it pushes has room. They stay on the stack till exchange.
func (w *walk) popped(o api.OpCode) []api.Val {
	pops, pushes := code.Effect(o)
	rest := len(w.Stack) - pops
	need(rest >= 0 && rest+pushes <= api.MaxStack, api.ErrStack)
	return w.Stack[rest:]
}

// exchange puts values in the place of so many uppermost ones.
func (w *walk) exchange(pops int, pushed ...api.Val) {
	w.Stack = append(w.Stack[:len(w.Stack)-pops], pushed...)
}

// pushed are the values that an instruction pushes for those that it pops.
func (w *walk) pushed(i api.Ins, popped []api.Val) []api.Val {
	switch i.Op {
	case api.Push:
		return []api.Val{i.Val}
	case api.Local:
		return []api.Val{w.Locals[i.Arg]}
	case api.Dup:
		return []api.Val{popped[0], popped[0]}
	case api.Swap:
		return []api.Val{popped[1], popped[0]}
	case api.Neg:
		return []api.Val{value.Neg(popped[0])}
	case api.Not:
		return []api.Val{truth(!value.Truth(popped[0]))}
	case api.Add, api.Sub, api.Mul, api.Div, api.Less, api.Same:
		return []api.Val{reckoned(i.Op, popped[0], popped[1])}
	}
	return nil
}

// reckoned is what an operation makes of two values.
func reckoned(o api.OpCode, lower, upper api.Val) api.Val {
	switch o {
	case api.Add:
		return value.Add(lower, upper)
	case api.Sub:
		return value.Sub(lower, upper)
	case api.Mul:
		return value.Mul(lower, upper)
	case api.Div:
		return value.Div(lower, upper)
	case api.Less:
		return truth(value.Less(lower, upper))
	}
	return truth(value.Same(lower, upper))
}

// truth is One, or 0.
func truth(is bool) api.Val {
	if is {
		return api.One
	}
	return 0
}
