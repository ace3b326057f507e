package thread

import (
	"slices"

	"rowlock/api"
	"rowlock/code"
	"rowlock/spec"
	"rowlock/value"
)

// runner is what a thread is inside: its State, what it told that it needs, and what the block that it is in, or was in last, came to.
type runner struct {
	api.State
	attempt
	program []api.Ins
	need    api.Need
	arms    []bool
}

// attempt is what is kept of a block as long as it is not at its end.
type attempt struct {
	inside bool
	first  api.State   // at the Atomic
	marks  []api.State // at the OrElse of each left arm that is begun, innermost last
}

// copied is a State with lists of its own.
func copied(s api.State) api.State {
	s.Stack, s.Out = slices.Clone(s.Stack), slices.Clone(s.Out)
	return s
}

// copied is another runner with the same. The program is nobody else's, and never changes: both may have it.
func (r *runner) copied() runner {
	o := *r
	o.State, o.first = copied(r.State), copied(r.first)
	o.marks, o.arms = nil, slices.Clone(r.arms)
	for _, m := range r.marks {
		o.marks = append(o.marks, copied(m))
	}
	return o
}

// stuck is the need of one that can't go on.
func stuck(why api.Errno) api.Need { return api.Need{Kind: api.StuckNeed, Errno: why} }

// asks is the need of one that asks for something.
func asks(a api.Ask) api.Need { return api.Need{Kind: api.AskNeed, Ask: a} }

// step goes on, unless something is needed that was told.
func (r *runner) step() api.Need {
	if r.need.Kind == api.NoNeed {
		r.need = r.goOn()
	}
	return r.need
}

// isPlace tells whether there is an instruction at Pc.
func (r *runner) isPlace() bool { return 0 <= r.Pc && r.Pc < len(r.program) }

// isRight tells whether there is one that is right.
func (r *runner) isRight() bool { return r.isPlace() && code.Right(r.program[r.Pc]) }

// standing is what stands at Pc, right or not; nil, if that is nothing.
func (r *runner) standing() any {
	if !r.isPlace() {
		return nil
	}
	return pieceOf(r.program[r.Pc])
}

// goOn does one instruction, or tells what it needs.
func (r *runner) goOn() api.Need {
	if r.inside {
		return r.goOnInside()
	}
	switch r.standing().(type) {
	case entrance:
		return api.Need{Kind: api.BeginNeed}
	case halt:
		return api.Need{Kind: api.HaltNeed}
	}
	return r.alone()
}

// goOnInside does so within a block.
func (r *runner) goOnInside() api.Need {
	if !r.isRight() {
		return stuck(api.ErrForm)
	}
	switch p := r.standing().(type) {
	case entrance, halt, output:
		return stuck(api.ErrForm)
	case access:
		return r.reach(p)
	case leftArm:
		return asks(api.Ask{Kind: api.PushIt})
	case rightArm:
		if len(r.marks) == 0 {
			return stuck(api.ErrForm)
		}
		return asks(api.Ask{Kind: api.MergeIt})
	case armsEnd:
		r.arms = append(r.arms, false)
		r.Pc++
		return api.Need{}
	case again:
		if len(r.marks) == 0 {
			return api.Need{Kind: api.RetryNeed}
		}
		return asks(api.Ask{Kind: api.DropIt})
	case exit:
		return asks(api.Ask{Kind: api.CommitIt})
	}
	return r.alone()
}

// alone does an instruction that needs nobody else.
func (r *runner) alone() api.Need {
	s, errno := spec.Step(r.program, r.State)
	if errno != api.OK {
		return stuck(errno)
	}
	r.State = s
	return api.Need{}
}

// reach asks for a variable; what that takes from the stack is popped only where nothing is wrong.
func (r *runner) reach(a access) api.Need {
	pops, pushes := code.Effect(a.op)
	rest := len(r.Stack) - pops
	if rest < 0 || rest+pushes > api.MaxStack {
		return stuck(api.ErrStack)
	}
	popped := r.Stack[rest:]
	ask := api.Ask{Kind: a.kind, Tvar: a.tvar}
	if a.indexed {
		n, ok := value.Whole(popped[pops-1])
		if !ok || n < 0 || a.tvar+n >= api.MaxTvars {
			return stuck(api.ErrRange)
		}
		ask.Tvar += n
	}
	if a.kind == api.WriteIt {
		ask.Val = popped[0]
	}
	r.Stack = r.Stack[:rest]
	return asks(ask)
}

// began goes into the block.
func (r *runner) began() api.Errno {
	if r.need.Kind != api.BeginNeed {
		return api.ErrState
	}
	r.attempt = attempt{inside: true, first: copied(r.State)}
	r.arms, r.need = nil, api.Need{}
	r.Pc++
	return api.OK
}

// give goes on behind what was asked for.
func (r *runner) give(v api.Val) api.Errno {
	if r.need.Kind != api.AskNeed {
		return api.ErrState
	}
	switch r.need.Ask.Kind {
	case api.ReadIt:
		r.Stack = append(r.Stack, value.Canon(v))
	case api.PushIt:
		r.marks = append(r.marks, copied(r.State))
	case api.MergeIt:
		r.unmark()
		r.arms = append(r.arms, true)
		r.Pc = armEnd(r.standing())
	case api.DropIt:
		r.State = r.unmark()
		r.Pc = armEnd(r.standing())
	case api.CommitIt:
		r.attempt = attempt{}
	}
	r.Pc++
	r.need = api.Need{}
	return api.OK
}

// unmark is the innermost mark, which goes.
func (r *runner) unmark() api.State {
	last := len(r.marks) - 1
	m := r.marks[last]
	r.marks = r.marks[:last]
	return m
}

// restart goes back to the Atomic, as if the block had not been begun.
func (r *runner) restart() api.Errno {
	if !r.inside {
		return api.ErrState
	}
	r.State, r.attempt = r.first, attempt{}
	r.arms, r.need = nil, api.Need{}
	return api.OK
}
