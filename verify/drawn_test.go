package verify

import (
	"fmt"
	"slices"
	"testing"

	"rowlock/api"
	"rowlock/code"
)

// writer draws a program that may be run: it keeps count of what stands on the stack.
type writer struct {
	draw   func(int) int
	l      []api.Ins
	height int
}

func (w *writer) put(o api.OpCode, arg int) int {
	i := api.Ins{Op: o, Arg: arg}
	if o == api.Push {
		i.Val = []api.Val{0, api.One, api.NaN}[w.draw(3)]
	}
	pops, pushes := code.Effect(o)
	w.height += pushes - pops
	w.l = append(w.l, i)
	return len(w.l) - 1
}

// level pops or pushes until so many stand there.
func (w *writer) level(height int) {
	for w.height > height {
		w.put(api.Pop, 0)
	}
	for w.height < height {
		w.put(api.Push, 0)
	}
}

// plain is one instruction that may stand where it is drawn.
func (w *writer) plain(inside bool) {
	ops := []api.OpCode{api.Nop, api.Push, api.Local, api.SetLocal, api.Add, api.Neg, api.Less, api.Dup, api.Pop, api.Swap}
	if inside {
		ops = append(ops, api.Get, api.Put, api.GetAt, api.PutAt)
	} else {
		ops = append(ops, api.Out)
	}
	o := ops[w.draw(len(ops))]
	pops, pushes := code.Effect(o)
	if w.height < pops || w.height-pops+pushes > api.MaxStack {
		return
	}
	arg := 0
	if has, _ := code.Uses(o); has {
		arg = w.draw(3)
	}
	w.put(o, arg)
}

// part is some instructions, with parts in them.
func (w *writer) part(inside bool, arms, deep int) {
	for range 1 + w.draw(4) {
		if deep == 0 {
			w.plain(inside)
			continue
		}
		switch w.draw(8) {
		case 0:
			w.choice(inside, arms, deep-1)
		case 1:
			w.loop(inside, arms, deep-1)
		case 2:
			w.bracket(inside, arms, deep-1)
		default:
			w.plain(inside)
		}
	}
}

// choice is a part that is done or not, now and then a retry.
func (w *writer) choice(inside bool, arms, deep int) {
	if w.height == api.MaxStack {
		return
	}
	w.put(api.Push, 0)
	at := w.put(api.IfZero, 0)
	height := w.height
	w.part(inside, arms, deep)
	w.level(height)
	if inside && w.draw(2) == 0 {
		w.put(api.Retry, 0)
	}
	w.l[at].Arg = w.put(api.Nop, 0)
}

// loop is a part that is done again and again.
func (w *writer) loop(inside bool, arms, deep int) {
	if w.height == api.MaxStack {
		return
	}
	from, height := len(w.l), w.height
	w.part(inside, arms, deep)
	w.level(height)
	w.put(api.Push, 0)
	w.put(api.IfZero, from)
}

// bracket is a block, or two arms.
func (w *writer) bracket(inside bool, arms, deep int) {
	switch {
	case !inside:
		at := w.put(api.Atomic, 0)
		w.part(true, 0, deep)
		w.l[at].Arg = w.put(api.End, 0)
	case arms < api.MaxDepth:
		left := w.put(api.OrElse, 0)
		height := w.height
		w.part(true, arms+1, deep)
		behind := w.height
		right := w.put(api.Else, 0)
		w.height = height
		w.part(true, arms+1, deep)
		w.level(behind)
		w.l[left].Arg, w.l[right].Arg = right, w.put(api.EndOr, 0)
	}
}

// drawnRight is a program that may be run, over three variables.
func drawnRight(draw func(int) int) []api.Ins {
	for {
		w := &writer{draw: draw}
		for range 1 + draw(3) {
			w.part(false, 0, 1+draw(5))
		}
		w.put(api.Halt, 0)
		if len(w.l) <= api.MaxCode {
			return w.l
		}
	}
}

// drawnAny is some instructions, of few operations, with small Args; now and then one that is not right.
func drawnAny(draw func(int) int) []api.Ins {
	var l []api.Ins
	n := draw(12)
	for range n {
		i := api.Ins{Op: api.OpCode(draw(int(api.LastOp) + 1))}
		if draw(2) == 0 {
			i.Op = []api.OpCode{api.Atomic, api.End, api.OrElse, api.Else, api.EndOr, api.Push, api.Halt}[draw(7)]
		}
		if arg, _ := code.Uses(i.Op); arg {
			i.Arg = draw(n + 1)
		}
		if draw(200) == 0 {
			i.Arg = []int{-1, 12, 64, 1 << 40}[draw(4)]
		}
		l = append(l, i)
	}
	return l
}

// spoilt is a program with something changed: an Arg, an operation, one more, one less, two that changed places.
func spoilt(draw func(int) int, l []api.Ins) []api.Ins {
	l = slices.Clone(l)
	at := draw(len(l))
	switch draw(5) {
	case 0:
		l[at].Arg = draw(len(l) + 1)
	case 1:
		l[at].Op = api.OpCode(draw(int(api.LastOp) + 2))
	case 2:
		l = slices.Insert(l, at, api.Ins{Op: api.OpCode(draw(int(api.LastOp) + 1))})
	case 3:
		l = slices.Delete(l, at, at+1)
	case 4:
		to := draw(len(l))
		l[at], l[to] = l[to], l[at]
	}
	if draw(2) == 0 {
		l = paired(l)
	}
	return l
}

// alike holds all calls of a program against the plain ones; it tells what Check should answer.
func alike(t *testing.T, l []api.Ins, tvars int) api.Errno {
	t.Helper()
	likePlain(t, l)
	d, at, errno := Depths(l)
	wantD, wantAt, want := plainDepths(l)
	if errno != want || at != wantAt || !slices.Equal(d, wantD) {
		t.Fatalf("Depths(%v) is %v, %d, %d, not %v, %d, %d", l, d, at, errno, wantD, wantAt, want)
	}
	at, errno = Check(l, tvars)
	wantAt, want = plainCheck(l, tvars)
	if at != wantAt || errno != want {
		t.Fatalf("Check(%v, %d) is %d, %d, not %d, %d", l, tvars, at, errno, wantAt, want)
	}
	return want
}

// TestDrawn: programs that may be run, and such with one thing or two changed.
func TestDrawn(t *testing.T) {
	draw := numbers(15)
	told := map[api.Errno]int{}
	for range 4000 {
		l := drawnRight(draw)
		if errno := alike(t, l, 3); errno != api.OK {
			t.Fatalf("%v is %d", l, errno)
		}
		neverStuck(t, l)
		for range 4 {
			m := spoilt(draw, l)
			if len(m) > 0 && draw(3) == 0 {
				m = spoilt(draw, m)
			}
			errno := alike(t, m, draw(5)-1)
			told[errno]++
			if errno == api.OK {
				neverStuck(t, m)
			}
		}
	}
	for range 60000 {
		l := drawnAny(draw)
		errno := alike(t, l, draw(13))
		told[errno]++
		if errno == api.OK {
			neverStuck(t, l)
		}
	}
	for _, errno := range []api.Errno{api.OK, api.ErrForm, api.ErrState, api.ErrRange, api.ErrStack} {
		if told[errno] < 300 {
			t.Errorf("error %d was told %d times", errno, told[errno])
		}
	}
}

// mark is a left arm that is begun: its OrElse, and how many stood on the stack.
type mark struct{ at, height int }

// moment is where a thread can be: at a place, with so many on the stack, in a block or not, with left arms that are begun.
type moment struct {
	pc, height int
	inside     bool
	marks      []mark
}

// neverStuck goes all ways that a program that may be run can go, whatever is popped, and holds against each place that nothing is in its way but fuel, what is put out, or an index.
func neverStuck(t *testing.T, l []api.Ins) {
	t.Helper()
	depths, _, _ := Depths(l)
	inside := Inside(l)
	seen := map[string]bool{}
	work := []moment{{}}
	for len(work) > 0 {
		m := work[len(work)-1]
		work = work[:len(work)-1]
		if key := fmt.Sprint(m); seen[key] {
			continue
		} else {
			seen[key] = true
		}
		if m.pc < 0 || m.pc >= len(l) || depths[m.pc] != m.height || inside[m.pc] != m.inside {
			t.Fatalf("%v: it comes to %+v, and should have %v", l, m, depths)
		}
		pops, pushes := code.Effect(l[m.pc].Op)
		if m.height < pops || m.height-pops+pushes > api.MaxStack {
			t.Fatalf("%v: it is stuck at %+v", l, m)
		}
		work = append(work, steps(t, l, m, m.height-pops+pushes)...)
	}
}

// steps are the moments that may come behind one.
func steps(t *testing.T, l []api.Ins, m moment, height int) []moment {
	t.Helper()
	i := l[m.pc]
	last := len(m.marks) - 1
	stuck := false
	on := moment{m.pc + 1, height, m.inside, m.marks}
	switch i.Op {
	case api.Get, api.Put, api.GetAt, api.PutAt:
		stuck = !m.inside
	case api.Out:
		stuck = m.inside
	case api.Halt:
		stuck = m.inside
		if !stuck {
			return nil
		}
	case api.Jump:
		on.pc = i.Arg
	case api.IfZero:
		other := on
		other.pc = i.Arg
		return []moment{on, other}
	case api.Atomic:
		stuck = m.inside
		on.inside = true
	case api.End:
		stuck = !m.inside || len(m.marks) > 0
		on.inside = false
	case api.OrElse:
		stuck = !m.inside || len(m.marks) >= api.MaxDepth
		on.marks = append(slices.Clone(m.marks), mark{m.pc, m.height})
	case api.Else:
		stuck = !m.inside || last < 0 || l[m.marks[last].at].Arg != m.pc
		if !stuck {
			on.pc, on.marks = i.Arg+1, m.marks[:last]
		}
	case api.Retry:
		stuck = !m.inside
		if last < 0 && !stuck {
			return nil
		}
		if !stuck {
			on = moment{l[m.marks[last].at].Arg + 1, m.marks[last].height, true, m.marks[:last]}
		}
	}
	if stuck {
		t.Fatalf("%v: it is stuck at %+v", l, m)
	}
	return []moment{on}
}

// TestStays: what is handed in stays as it is, what is behind its end too; what is answered is the caller's.
func TestStays(t *testing.T) {
	draw := numbers(3)
	for range 500 {
		l := drawnRight(draw)
		if draw(2) == 0 {
			l = spoilt(draw, l)
		}
		room := append(slices.Clone(l), of("push, jump 5, end")...)
		kept := slices.Clone(room)
		l = room[:len(l)]
		for range 2 {
			in, at, errno := Regions(l)
			inside, blocks := Inside(l), Blocks(l)
			d, dAt, dErrno := Depths(l)
			checkAt, check := Check(l, 3)
			again, againAt, againErrno := Regions(l)
			if !slices.Equal(in, again) || at != againAt || errno != againErrno {
				t.Fatalf("Regions(%v) is another one", l)
			}
			spoil(in)
			spoil(blocks)
			spoil(d)
			for i := range inside {
				inside[i] = !inside[i]
			}
			if now, _, _ := Regions(l); !slices.Equal(now, again) {
				t.Fatalf("Regions(%v) is kept", l)
			}
			if nowD, nowAt, now := Depths(l); nowAt != dAt || now != dErrno || len(d) > 0 && slices.Equal(nowD, d) {
				t.Fatalf("Depths(%v) is kept", l)
			}
			if nowAt, now := Check(l, 3); nowAt != checkAt || now != check {
				t.Fatalf("Check(%v) is another one", l)
			}
		}
		if !slices.Equal(room, kept) {
			t.Fatalf("%v became %v", kept, room)
		}
	}
}

// spoil changes all of a list, and the room behind its end.
func spoil(l []int) {
	l = l[:cap(l)]
	for at := range l {
		l[at] += 1000
	}
}
