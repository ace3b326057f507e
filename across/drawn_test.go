// Package across tries promises that several layers keep together, over many drawn programs.
package across

import (
	"slices"

	"rowlock/api"
	"rowlock/code"
	"rowlock/value"
	"rowlock/verify"
)

// tvars is how many variables the programs have.
const tvars = 3

// numbers draws numbers below n, the same ones for the same seed.
func numbers(seed uint64) func(n int) int {
	return func(n int) int {
		seed = seed*6364136223846793005 + 1442695040888963407
		return int(seed >> 33 % uint64(n))
	}
}

// drawnVal is a value that is right: small whole numbers most often.
func drawnVal(draw func(int) int) api.Val {
	if draw(4) == 0 {
		return []api.Val{api.NaN, api.Infinity, api.NegZero, api.Infinity | api.NegZero, value.Of(0.5), value.Of(-1)}[draw(6)]
	}
	return value.Of(float64(draw(tvars + 1)))
}

// drawnHeap are the variables' values.
func drawnHeap(draw func(int) int) []api.Val {
	var heap []api.Val
	for range tvars {
		heap = append(heap, drawnVal(draw))
	}
	return heap
}

// writer draws a program that may be run: it keeps count of what stands on the stack. Where retries are set, a left arm ends by a Retry.
type writer struct {
	draw    func(int) int
	l       []api.Ins
	height  int
	retries bool
}

// put writes one instruction, and answers its place.
func (w *writer) put(o api.OpCode, arg int) int {
	i := api.Ins{Op: o, Arg: arg}
	if o == api.Push {
		i.Val = drawnVal(w.draw)
	}
	pops, pushes := code.Effect(o)
	w.height += pushes - pops
	w.l = append(w.l, i)
	return len(w.l) - 1
}

// level pops or pushes until so many stand there.
func (w *writer) level(height int) {
	for w.height > height {
		w.put(api.Pop, 0)
	}
	for w.height < height {
		w.put(api.Push, 0)
	}
}

// may tells whether an operation fits the stack.
func (w *writer) may(o api.OpCode) bool {
	pops, pushes := code.Effect(o)
	return w.height >= pops && w.height-pops+pushes <= api.MaxStack
}

// plain is one instruction that may stand where it is drawn.
func (w *writer) plain(inside bool) {
	ops := []api.OpCode{api.Nop, api.Push, api.Push, api.Local, api.SetLocal, api.Add, api.Sub, api.Mul, api.Div, api.Neg, api.Less, api.Same, api.Not, api.Dup, api.Pop, api.Swap}
	if inside {
		ops = append(ops, api.Get, api.Get, api.Get, api.Put, api.Put, api.Put, api.GetAt, api.PutAt)
	} else {
		ops = append(ops, api.Out)
	}
	o := ops[w.draw(len(ops))]
	if !w.may(o) {
		return
	}
	arg := 0
	if o == api.GetAt || o == api.PutAt {
		w.index()
	} else if has, _ := code.Uses(o); has {
		arg = w.draw(tvars)
	}
	w.put(o, arg)
}

// index puts a number on the stack that most often is an index, instead of the uppermost value.
func (w *writer) index() {
	if w.draw(4) > 0 {
		w.put(api.Pop, 0)
		at := w.put(api.Push, 0)
		w.l[at].Val = value.Of(float64(w.draw(tvars)))
	}
}

// part is some instructions, with parts in them.
func (w *writer) part(inside bool, arms, deep int) {
	for range 1 + w.draw(4) {
		if deep == 0 {
			w.plain(inside)
			continue
		}
		switch w.draw(7) {
		case 0:
			w.choice(inside, arms, deep-1)
		case 1:
			w.loop(inside, arms, deep-1)
		case 2, 3:
			w.bracket(inside, arms, deep-1)
		default:
			w.plain(inside)
		}
	}
}

// test puts on the stack what is asked: a value, a local, or a variable.
func (w *writer) test(inside bool) {
	switch w.draw(3) {
	case 0:
		w.put(api.Push, 0)
	case 1:
		w.put(api.Local, w.draw(api.MaxLocals))
	case 2:
		if inside {
			w.put(api.Get, w.draw(tvars))
		} else {
			w.put(api.Push, 0)
		}
	}
	if w.draw(2) == 0 {
		w.put(api.Not, 0)
	}
}

// choice is a part that is done or not, now and then a retry.
func (w *writer) choice(inside bool, arms, deep int) {
	if w.height == api.MaxStack {
		return
	}
	w.test(inside)
	at := w.put(api.IfZero, 0)
	height := w.height
	w.part(inside, arms, deep)
	w.level(height)
	if inside && w.draw(2) == 0 {
		w.put(api.Retry, 0)
	}
	w.l[at].Arg = w.put(api.Nop, 0)
}

// loop is a part that is done again and again, most often up to a count, else till something is no zero any more.
func (w *writer) loop(inside bool, arms, deep int) {
	if w.height > api.MaxStack-2 {
		return
	}
	from, height := len(w.l), w.height
	w.part(inside, arms, deep)
	w.level(height)
	if w.draw(4) > 0 {
		w.count(w.draw(api.MaxLocals))
	} else {
		w.test(inside)
	}
	w.put(api.IfZero, from)
}

// count adds 1 to a local, and puts on the stack whether it is above a number.
func (w *writer) count(local int) {
	w.put(api.Local, local)
	at := w.put(api.Push, 0)
	w.l[at].Val = api.One
	w.put(api.Add, 0)
	w.put(api.Dup, 0)
	w.put(api.SetLocal, local)
	at = w.put(api.Push, 0)
	w.l[at].Val = value.Of(float64(1 + w.draw(4)))
	w.put(api.Swap, 0)
	w.put(api.Less, 0)
}

// bracket is a block, or two arms.
func (w *writer) bracket(inside bool, arms, deep int) {
	switch {
	case !inside:
		at := w.put(api.Atomic, 0)
		w.part(true, 0, deep)
		w.l[at].Arg = w.put(api.End, 0)
	case arms < api.MaxDepth:
		left := w.put(api.OrElse, 0)
		height := w.height
		w.part(true, arms+1, deep)
		if w.retries {
			w.put(api.Retry, 0)
		}
		behind := w.height
		right := w.put(api.Else, 0)
		w.height = height
		w.part(true, arms+1, deep)
		w.level(behind)
		w.l[left].Arg, w.l[right].Arg = right, w.put(api.EndOr, 0)
	}
}

// program is what was written, with a halt behind it; nil, if it is too long, or what is behind a Retry that always comes does not fit.
func (w *writer) program() []api.Ins {
	w.put(api.Halt, 0)
	if _, errno := verify.Check(w.l, tvars); errno != api.OK {
		return nil
	}
	return w.l
}

// drawnRight is a program that may be run.
func drawnRight(draw func(int) int, retries bool) []api.Ins {
	for {
		w := &writer{draw: draw, retries: retries}
		for range 1 + draw(3) {
			w.part(false, 0, 1+draw(5))
			w.bracket(false, 0, 1+draw(3))
		}
		if l := w.program(); l != nil {
			return l
		}
	}
}

// drawnAny is some instructions that begin with a block, of few operations, with small Args; now and then one that is not right.
func drawnAny(draw func(int) int) []api.Ins {
	n := 3 + draw(12)
	l := []api.Ins{{Op: api.Atomic, Arg: draw(n)}}
	for len(l) < n {
		i := api.Ins{Op: api.OpCode(draw(int(api.LastOp) + 1))}
		if draw(2) == 0 {
			i.Op = []api.OpCode{api.End, api.OrElse, api.OrElse, api.Else, api.EndOr, api.Retry, api.Push, api.Push, api.Get, api.Put}[draw(10)]
		}
		arg, val := code.Uses(i.Op)
		if arg {
			i.Arg = draw(n + 1)
		}
		if val {
			i.Val = drawnVal(draw)
		}
		if draw(100) == 0 {
			i.Arg = []int{-1, 12, 64, 1 << 40}[draw(4)]
		}
		l = append(l, i)
	}
	return l
}

// spoilt is a program with something changed: an Arg, an operation, one more, one less, two that changed places.
func spoilt(draw func(int) int, l []api.Ins) []api.Ins {
	l = slices.Clone(l)
	at := draw(len(l))
	switch draw(5) {
	case 0:
		l[at].Arg = draw(len(l) + 1)
	case 1:
		l[at].Op = api.OpCode(draw(int(api.LastOp) + 2))
	case 2:
		l = slices.Insert(l, at, api.Ins{Op: api.OpCode(draw(int(api.LastOp) + 1))})
	case 3:
		l = slices.Delete(l, at, at+1)
	case 4:
		to := draw(len(l))
		l[at], l[to] = l[to], l[at]
	}
	return l[:min(len(l), api.MaxCode)]
}
