package flows

import (
	"math"
	"slices"
	"strconv"
	"strings"
	"testing"

	"rowlock/api"
	"rowlock/code"
	"rowlock/object"
	"rowlock/spec"
	"rowlock/value"
	"rowlock/verify"
)

const notRight api.Val = 0x7ff8000000000001

// given is what the calls are given; not each of them takes all of it. (The size of Leave is that of its barrier.)
type given struct {
	at, tvar, size, local int
	val                   api.Val
}

// made is one of the four calls, with the block that the chapter tells of it.
type made struct {
	name string
	call func(g given) ([]api.Ins, api.Errno)
	text string
	of   api.ObjectKind
	kind api.CallKind
}

var blocks = []made{
	{"Enter", func(g given) ([]api.Ins, api.Errno) { return Enter(g.at, g.tvar, g.size, g.val) },
		"atomic 22, get n, push size, same, zero 6, retry, push v, get f, get n, add, dup, push size, less, zero 15, jump 17, push size, sub, putat s, get n, push 1, add, put n, end",
		api.Queue, api.EnterIt},
	{"Take", func(g given) ([]api.Ins, api.Errno) { return Take(g.at, g.tvar, g.size) },
		"atomic 23, get n, zero 22, get f, getat s, get n, push 1, sub, put n, get f, push 1, add, dup, push size, less, zero 18, put f, jump 23, pop, push 0, put f, jump 23, retry, end",
		api.Queue, api.TakeIt},
	{"Arrive", func(g given) ([]api.Ins, api.Errno) { return Arrive(g.at, g.tvar, g.size) },
		"atomic 18, get f, get n, push 1, add, dup, push size, same, zero 17, pop, push 0, put n, get f, push 1, add, put f, jump 18, put n, end",
		api.Barrier, api.ArriveIt},
	{"Leave", func(g given) ([]api.Ins, api.Errno) { return Leave(g.at, g.tvar, g.local) },
		"atomic 7, local local, get f, less, zero 6, jump 7, retry, end",
		api.Barrier, api.LeaveIt},
}

// length is how many instructions the block has.
func (m made) length() int { return strings.Count(m.text, ",") + 1 }

// variables is how many its object has.
func (m made) variables(size int) int {
	if m.of == api.Queue {
		return size + 2
	}
	return 2
}

// told is the block that the text tells.
func (m made) told(t *testing.T, g given) []api.Ins {
	t.Helper()
	var l []api.Ins
	for line := range strings.SplitSeq(m.text, ", ") {
		word, name, has := strings.Cut(line, " ")
		o, ok := code.ReadWord(word)
		if !ok {
			t.Fatalf("there is no word %s", word)
		}
		i := api.Ins{Op: o}
		stands := map[string]int{"n": g.tvar, "f": g.tvar + 1, "s": g.tvar + 2, "size": g.size, "local": g.local}
		n, isName := stands[name]
		if has && !isName && name != "v" {
			var err error
			if n, err = strconv.Atoi(name); err != nil {
				t.Fatal(err)
			}
		}
		switch word {
		case "push":
			i.Val = value.Of(float64(n))
			if name == "v" {
				i.Val = g.val
			}
		case "atomic", "jump", "zero":
			i.Arg = g.at + n
		default:
			i.Arg = n
		}
		l = append(l, i)
	}
	return l
}

var someVals = []api.Val{0, api.One, api.NegZero, api.NaN, api.Infinity, api.Infinity | api.NegZero, value.Of(2), 1}

// TestBlocks: P23.1: each block, instruction by instruction, wherever it may stand, of each variable, size, local, and of values of all kinds.
func TestBlocks(t *testing.T) {
	for _, m := range blocks {
		for at := 0; at+m.length() <= api.MaxCode; at++ {
			for size := 1; size <= 4; size++ {
				for tvar := 0; tvar+m.variables(size) <= api.MaxTvars; tvar++ {
					g := given{at, tvar, size, (at + tvar + size) % api.MaxLocals, someVals[(at+tvar+2*size)%len(someVals)]}
					l, e := m.call(g)
					if want := m.told(t, g); e != api.OK || !slices.Equal(l, want) {
						t.Fatalf("%s of %+v is %v, %d, not %v", m.name, g, l, e, want)
					}
				}
			}
		}
	}
}

// TestExample: that of the chapter, and one of each other call at another place.
func TestExample(t *testing.T) {
	is := func(l []api.Ins, e api.Errno, want ...api.Ins) {
		t.Helper()
		if e != api.OK || !slices.Equal(l, want) {
			t.Errorf("it is %v, %d, not %v", l, e, want)
		}
	}
	op := func(o api.OpCode) api.Ins { return api.Ins{Op: o} }
	to := func(o api.OpCode, arg int) api.Ins { return api.Ins{Op: o, Arg: arg} }
	push := func(f float64) api.Ins { return api.Ins{Op: api.Push, Val: value.Of(f)} }
	leave, e := Leave(0, 3, 1)
	is(leave, e, to(api.Atomic, 7), to(api.Local, 1), to(api.Get, 4), op(api.Less), to(api.IfZero, 6), to(api.Jump, 7), op(api.Retry), op(api.End))
	enter, e := Enter(10, 5, 3, value.Of(-7))
	is(enter, e, to(api.Atomic, 32), to(api.Get, 5), push(3), op(api.Same), to(api.IfZero, 16), op(api.Retry),
		push(-7), to(api.Get, 6), to(api.Get, 5), op(api.Add), op(api.Dup), push(3), op(api.Less), to(api.IfZero, 25), to(api.Jump, 27),
		push(3), op(api.Sub), to(api.PutAt, 7), to(api.Get, 5), push(1), op(api.Add), to(api.Put, 5), op(api.End))
	take, e := Take(40, 8, 2)
	is(take, e, to(api.Atomic, 63), to(api.Get, 8), to(api.IfZero, 62), to(api.Get, 9), to(api.GetAt, 10), to(api.Get, 8), push(1), op(api.Sub), to(api.Put, 8),
		to(api.Get, 9), push(1), op(api.Add), op(api.Dup), push(2), op(api.Less), to(api.IfZero, 58), to(api.Put, 9), to(api.Jump, 63),
		op(api.Pop), push(0), to(api.Put, 9), to(api.Jump, 63), op(api.Retry), op(api.End))
	arrive, e := Arrive(1, 0, 4)
	is(arrive, e, to(api.Atomic, 19), to(api.Get, 1), to(api.Get, 0), push(1), op(api.Add), op(api.Dup), push(4), op(api.Same), to(api.IfZero, 18),
		op(api.Pop), push(0), to(api.Put, 0), to(api.Get, 1), push(1), op(api.Add), to(api.Put, 1), to(api.Jump, 19), to(api.Put, 0), op(api.End))
}

// wanted is the error that the chapter tells of what is given.
func wanted(m made, g given) api.Errno {
	sized, last := m.name != "Leave", 1
	if m.of == api.Queue {
		last = g.size + 1
	}
	switch {
	case g.at < 0 || g.at > 64,
		sized && (g.size < 1 || g.size > 4),
		g.tvar < 0 || g.tvar > 11 || g.tvar+last > 11,
		!sized && (g.local < 0 || g.local > 3):
		return api.ErrRange
	case m.name == "Enter" && g.val == notRight:
		return api.ErrForm
	case g.at+m.length() > 64:
		return api.ErrSpace
	}
	return api.OK
}

// TestErrors: P23.1, P2, P1: each edge and beyond, all of them beside all others: ErrRange comes ahead of ErrForm, and that ahead of ErrSpace; nothing else is answered with them.
func TestErrors(t *testing.T) {
	places := []int{math.MinInt, -1, 0, 1, 40, 41, 42, 45, 46, 56, 57, 63, api.MaxCode, api.MaxCode + 1, math.MaxInt - 3, math.MaxInt}
	sizes := []int{math.MinInt, -1, 0, 1, 2, 3, 4, 5, math.MaxInt - 1, math.MaxInt}
	tvars := []int{math.MinInt, -1, 0, 5, 6, 7, 8, 9, 10, 11, api.MaxTvars, math.MaxInt - 1, math.MaxInt}
	locals := []int{math.MinInt, -1, 0, 3, 4, math.MaxInt}
	for _, m := range blocks {
		told := map[api.Errno]int{}
		for _, at := range places {
			for i, size := range sizes {
				for j, tvar := range tvars {
					for _, v := range []api.Val{api.NaN, notRight} {
						g := given{at, tvar, size, locals[(i+j)%len(locals)], v}
						want := wanted(m, g)
						told[want]++
						l, e := m.call(g)
						if e != want || (len(l) == m.length()) != (e == api.OK) || e != api.OK && len(l) > 0 {
							t.Fatalf("%s of %+v is %v, %d, not %d", m.name, g, l, e, want)
						}
					}
				}
			}
		}
		if told[api.OK] < 20 || told[api.ErrSpace] < 20 || told[api.ErrRange] < 20 || (told[api.ErrForm] < 20) == (m.name == "Enter") {
			t.Error(m.name, told)
		}
	}
}

// TestEdges: P23.1: each edge alone.
func TestEdges(t *testing.T) {
	rows := []struct {
		name string
		g    given
		want api.Errno
	}{
		{"Enter", given{at: -1, size: 1}, api.ErrRange},
		{"Enter", given{at: 0, size: 1}, api.OK},
		{"Enter", given{at: 41, size: 1}, api.OK},
		{"Enter", given{at: 42, size: 1}, api.ErrSpace},
		{"Enter", given{at: 64, size: 1}, api.ErrSpace},
		{"Enter", given{at: 65, size: 1}, api.ErrRange},
		{"Enter", given{size: 0}, api.ErrRange},
		{"Enter", given{size: 4}, api.OK},
		{"Enter", given{size: 5}, api.ErrRange},
		{"Enter", given{tvar: -1, size: 1}, api.ErrRange},
		{"Enter", given{tvar: 9, size: 1}, api.OK},
		{"Enter", given{tvar: 10, size: 1}, api.ErrRange},
		{"Enter", given{tvar: 6, size: 4}, api.OK},
		{"Enter", given{tvar: 7, size: 4}, api.ErrRange},
		{"Enter", given{size: 1, val: notRight}, api.ErrForm},
		{"Enter", given{size: 1, val: notRight | api.NegZero}, api.ErrForm},
		{"Enter", given{size: 1, val: api.NaN | api.NegZero}, api.ErrForm},
		{"Enter", given{at: 42, size: 1, val: notRight}, api.ErrForm},
		{"Enter", given{at: 65, size: 1, val: notRight}, api.ErrRange},
		{"Enter", given{at: 42, size: 5}, api.ErrRange},
		{"Take", given{at: -1, size: 1}, api.ErrRange},
		{"Take", given{at: 40, size: 1}, api.OK},
		{"Take", given{at: 41, size: 1}, api.ErrSpace},
		{"Take", given{at: 64, size: 1}, api.ErrSpace},
		{"Take", given{at: 65, size: 1}, api.ErrRange},
		{"Take", given{size: 0}, api.ErrRange},
		{"Take", given{size: 4}, api.OK},
		{"Take", given{size: 5}, api.ErrRange},
		{"Take", given{tvar: -1, size: 1}, api.ErrRange},
		{"Take", given{tvar: 9, size: 1}, api.OK},
		{"Take", given{tvar: 10, size: 1}, api.ErrRange},
		{"Take", given{tvar: 8, size: 2}, api.OK},
		{"Take", given{tvar: 9, size: 2}, api.ErrRange},
		{"Take", given{at: 41, tvar: 9, size: 2}, api.ErrRange},
		{"Arrive", given{at: -1, size: 1}, api.ErrRange},
		{"Arrive", given{at: 45, size: 1}, api.OK},
		{"Arrive", given{at: 46, size: 1}, api.ErrSpace},
		{"Arrive", given{at: 64, size: 1}, api.ErrSpace},
		{"Arrive", given{at: 65, size: 1}, api.ErrRange},
		{"Arrive", given{size: 0}, api.ErrRange},
		{"Arrive", given{size: 4}, api.OK},
		{"Arrive", given{size: 5}, api.ErrRange},
		{"Arrive", given{tvar: -1, size: 1}, api.ErrRange},
		{"Arrive", given{tvar: 10, size: 4}, api.OK},
		{"Arrive", given{tvar: 11, size: 1}, api.ErrRange},
		{"Arrive", given{at: 46, tvar: 11, size: 1}, api.ErrRange},
		{"Leave", given{at: -1}, api.ErrRange},
		{"Leave", given{at: 56}, api.OK},
		{"Leave", given{at: 57}, api.ErrSpace},
		{"Leave", given{at: 64}, api.ErrSpace},
		{"Leave", given{at: 65}, api.ErrRange},
		{"Leave", given{tvar: -1}, api.ErrRange},
		{"Leave", given{tvar: 10}, api.OK},
		{"Leave", given{tvar: 11}, api.ErrRange},
		{"Leave", given{local: -1}, api.ErrRange},
		{"Leave", given{local: 3}, api.OK},
		{"Leave", given{local: 4}, api.ErrRange},
		{"Leave", given{at: 57, local: 4}, api.ErrRange},
	}
	for _, r := range rows {
		m := blocks[slices.IndexFunc(blocks, func(m made) bool { return m.name == r.name })]
		if l, e := m.call(r.g); e != r.want || e != api.OK && len(l) > 0 {
			t.Errorf("%s of %+v is %v, %d, not %d", r.name, r.g, l, e, r.want)
		}
	}
}

// TestOwn: P3, P6: what is answered is the caller's, spare room too: nothing of it is answered again.
func TestOwn(t *testing.T) {
	g := given{3, 2, 2, 1, api.Infinity}
	for _, m := range blocks {
		var kept [][]api.Ins
		for range 3 {
			l, _ := m.call(g)
			if !slices.Equal(l, m.told(t, g)) {
				t.Fatalf("%s is %v", m.name, l)
			}
			all := l[:cap(l)]
			for i := range all {
				all[i] = api.Ins{Op: 99, Arg: 99, Val: 99}
			}
			kept = append(kept, l)
		}
		kept[0][0].Arg = 7
		if kept[1][0].Arg != 99 || kept[2][0].Arg != 99 {
			t.Errorf("%s: two answers share memory", m.name)
		}
	}
}

// TestWords: a line's words come one by one, and no more of them than are asked for.
func TestWords(t *testing.T) {
	for _, line := range []string{"end", "get n", "a b c d"} {
		var got []string
		for place, word := range words(line) {
			if place != len(got) {
				t.Errorf("%s stands at %d of %q", word, place, line)
			}
			got = append(got, word)
		}
		if !slices.Equal(got, strings.Split(line, " ")) {
			t.Errorf("the words of %q are %q", line, got)
		}
	}
	for range words("a b c") {
		break
	}
}

// alone is a program of a block alone: ahead of it stand Nops, behind it a Halt.
func alone(t *testing.T, m made, g given) []api.Ins {
	t.Helper()
	l, e := m.call(g)
	if e != api.OK {
		t.Fatalf("%s of %+v: %d", m.name, g, e)
	}
	return slices.Concat(make([]api.Ins, g.at), l, []api.Ins{{Op: api.Halt}})
}

// TestMayBeRun: P23.2: with halt behind, each may be run, over all variables up to its object's last one.
func TestMayBeRun(t *testing.T) {
	for _, m := range blocks {
		for at := 0; at+m.length() < api.MaxCode; at++ {
			for size := 1; size <= 4; size++ {
				for tvar := 0; tvar+m.variables(size) <= api.MaxTvars; tvar++ {
					g := given{at, tvar, size, (at + tvar) % api.MaxLocals, api.NaN}
					l := alone(t, m, g)
					if place, e := verify.Check(l, tvar+m.variables(size)); place != 0 || e != api.OK {
						t.Fatalf("%s of %+v: Check is %d, %d", m.name, g, place, e)
					}
				}
			}
		}
	}
}

// numbers draws numbers below n, the same ones for the same seed.
func numbers(seed uint64) func(n int) int {
	return func(n int) int {
		seed = seed*6364136223846793005 + 1442695040888963407
		return int(seed >> 33 % uint64(n))
	}
}

// used is an object beside a heap that has its variables from one on.
type used struct {
	o          *object.Object
	size, tvar int
	heap       []api.Val
	first      int // of a queue: the place of its first value
}

// holds holds the variables against the object's shape.
func (u *used) holds(t *testing.T) {
	t.Helper()
	s, own := u.o.Shape(), u.heap[u.tvar:]
	want := []api.Val{value.Of(float64(s.Count)), value.Of(float64(s.Gen))}
	if u.o.Kind() == api.Queue {
		want = []api.Val{value.Of(float64(len(s.Vals))), value.Of(float64(u.first))}
		for i, v := range s.Vals {
			if got := own[2+(u.first+i)%u.size]; got != v {
				t.Fatalf("the value %d behind %d is %x in %v, not %x", i, u.first, got, own, v)
			}
		}
	}
	if !slices.Equal(own[:2], want) {
		t.Fatalf("the variables are %v, and the object %+v", own, s)
	}
}

// notes takes over the heap behind a block that is at its end: of a queue the places that hold nothing may be as they like, all else that is not the object's is as it was.
func (u *used) notes(t *testing.T, k api.CallKind, heap []api.Val) {
	t.Helper()
	end := u.tvar + 2
	if u.o.Kind() == api.Queue {
		end += u.size
	}
	if len(heap) != len(u.heap) || !slices.Equal(heap[:u.tvar], u.heap[:u.tvar]) || !slices.Equal(heap[end:], u.heap[end:]) {
		t.Fatalf("the heap was %v, and is %v: another's variable has changed", u.heap, heap)
	}
	u.heap = heap
	if k == api.TakeIt {
		u.first = (u.first + 1) % u.size
	}
	u.holds(t)
}

// does holds a block, run by spec, against what the object says of the call, and tells whether it blocked.
func (u *used) does(t *testing.T, draw func(int) int, m made, v api.Val) bool {
	t.Helper()
	g := given{draw(api.MaxCode - m.length()), u.tvar, u.size, draw(api.MaxLocals), v}
	l := alone(t, m, g)
	first := api.State{Pc: g.at, Stack: slices.Repeat([]api.Val{api.NaN}, draw(api.MaxStack-4)), Out: []api.Val{0}}
	for i := range first.Locals {
		first.Locals[i] = api.NegZero
	}
	c := api.Call{Kind: m.kind, Who: draw(api.MaxThreads)}
	switch m.kind {
	case api.EnterIt:
		c.Val = v
	case api.LeaveIt:
		c.Val, first.Locals[g.local] = v, v
	}
	a := u.o.Do(c)
	if a.Errno != api.OK {
		t.Fatalf("%s: the object has %d", m.name, a.Errno)
	}
	got := spec.Block(l, first, u.heap, m.length())
	want := api.Outcome{Kind: api.Finished, State: first}
	switch {
	case a.Blocks:
		want.Kind = api.Retried
	case m.kind == api.TakeIt, m.kind == api.ArriveIt:
		want.State.Stack = append(want.State.Stack, a.Val)
		fallthrough
	default:
		want.State.Pc += m.length()
	}
	if got.Kind != want.Kind || got.Errno != api.OK || got.State.Pc != want.State.Pc || !slices.Equal(got.State.Stack, want.State.Stack) ||
		got.State.Locals != want.State.Locals || !slices.Equal(got.State.Out, want.State.Out) {
		t.Fatalf("%s of %+v over %v comes to %+v, not to %+v", m.name, g, u.heap, got, want)
	}
	if a.Blocks {
		if !slices.Equal(got.Heap, u.heap) {
			t.Fatalf("%s of %+v over %v blocks, and the heap is %v", m.name, g, u.heap, got.Heap)
		}
		return true
	}
	u.notes(t, m.kind, got.Heap)
	return false
}

// begun is an object of its first state, in a heap that has other variables, too.
func begun(draw func(int) int, m made, size int) *used {
	u := &used{o: object.New(m.of, size), size: size, tvar: draw(api.MaxTvars - m.variables(size) + 1)}
	end := u.tvar + m.variables(size)
	u.heap = slices.Repeat([]api.Val{api.Infinity}, end+draw(api.MaxTvars-end+1))
	u.heap[u.tvar], u.heap[u.tvar+1] = 0, 0
	return u
}

// TestMeaning: P23.3: over many drawn calls, by spec each block does to its variables what the object says of its call, leaves its answer, and touches nothing else.
func TestMeaning(t *testing.T) {
	draw := numbers(23)
	done, blocked := map[string]int{}, map[string]int{}
	for range 1000 {
		of := blocks[2*draw(2):][:2]
		u := begun(draw, of[0], 1+draw(4))
		for range 40 {
			m := of[draw(2)]
			v := someVals[draw(len(someVals))]
			if m.kind == api.LeaveIt && draw(2) == 0 {
				v = value.Of(float64(u.o.Shape().Gen - 1 + draw(3)))
			}
			if u.does(t, draw, m, v) {
				blocked[m.name]++
			} else {
				done[m.name]++
			}
		}
	}
	for _, m := range blocks {
		if done[m.name] < 2000 || (blocked[m.name] > 2000) == (m.name == "Arrive") {
			t.Errorf("%s: %d done, %d blocked", m.name, done[m.name], blocked[m.name])
		}
	}
}

// TestAllStates: P23.3: of each state that a queue can be in, and of each that a barrier can be in up to some generation.
func TestAllStates(t *testing.T) {
	draw := numbers(233)
	for size := 1; size <= 4; size++ {
		for first := range size {
			for count := range size + 1 {
				for _, m := range blocks[:2] {
					u := begun(draw, m, size)
					for range first {
						u.does(t, draw, blocks[0], api.One)
						u.does(t, draw, blocks[1], 0)
					}
					for i := range count {
						u.does(t, draw, blocks[0], someVals[i])
					}
					if shut := u.does(t, draw, m, api.NaN); shut != (m.kind == api.EnterIt && count == size || m.kind == api.TakeIt && count == 0) {
						t.Errorf("%s of %d values of %d: blocks is %v", m.name, count, size, shut)
					}
				}
			}
		}
		for arrivals := range 4 * size {
			for _, v := range append(someVals, value.Of(3), value.Of(-1), value.Of(1.5)) {
				u := begun(draw, blocks[2], size)
				for range arrivals {
					u.does(t, draw, blocks[2], 0)
				}
				if shut := u.does(t, draw, blocks[3], v); shut == value.Less(v, value.Of(float64(arrivals/size))) {
					t.Errorf("behind %d of %d, leaving %x: blocks is %v", arrivals, size, v, shut)
				}
			}
		}
	}
}
