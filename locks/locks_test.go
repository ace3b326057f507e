package locks

import (
	"math"
	"slices"
	"strconv"
	"strings"
	"testing"

	"rowlock/api"
	"rowlock/code"
	"rowlock/object"
	"rowlock/spec"
	"rowlock/value"
	"rowlock/verify"
)

// made is one of the four calls, with the block that the chapter tells of it. (Down and Up have no who.)
type made struct {
	name string
	call func(at, tvar, who int) ([]api.Ins, api.Errno)
	text string
	who  bool
	of   api.ObjectKind
	kind api.CallKind
}

var blocks = []made{
	{"Lock", Lock, "atomic 6, get tvar, zero 4, retry, push 1+who, put tvar, end", true, api.Mutex, api.LockIt},
	{"Unlock", Unlock, "atomic 10, get tvar, push 1+who, same, zero 9, push 0, put tvar, push 1, jump 10, push 0, end", true, api.Mutex, api.UnlockIt},
	{"Down", func(at, tvar, who int) ([]api.Ins, api.Errno) { return Down(at, tvar) },
		"atomic 9, get tvar, dup, zero 8, push 1, sub, put tvar, jump 9, retry, end", false, api.Semaphore, api.DownIt},
	{"Up", func(at, tvar, who int) ([]api.Ins, api.Errno) { return Up(at, tvar) },
		"atomic 5, get tvar, push 1, add, put tvar, end", false, api.Semaphore, api.UpIt},
}

// size is how many instructions the block has.
func (m made) size() int { return strings.Count(m.text, ",") + 1 }

// told is the block that the text tells, from a place on.
func (m made) told(t *testing.T, at, tvar, who int) []api.Ins {
	t.Helper()
	text := strings.NewReplacer("tvar", strconv.Itoa(tvar), "1+who", strconv.Itoa(1+who)).Replace(m.text)
	var l []api.Ins
	for line := range strings.SplitSeq(text, ", ") {
		word, number, has := strings.Cut(line, " ")
		o, ok := code.ReadWord(word)
		if !ok {
			t.Fatalf("there is no word %s", word)
		}
		i := api.Ins{Op: o}
		if has {
			n, err := strconv.Atoi(number)
			if err != nil {
				t.Fatal(err)
			}
			switch word {
			case "push":
				i.Val = value.Of(float64(n))
			case "get", "put":
				i.Arg = n
			default:
				i.Arg = at + n
			}
		}
		l = append(l, i)
	}
	return l
}

// TestBlocks: P22.1: each block, instruction by instruction, wherever it may stand, of each variable and thread.
func TestBlocks(t *testing.T) {
	for _, m := range blocks {
		for at := 0; at+m.size() <= api.MaxCode; at++ {
			for tvar := range api.MaxTvars {
				for who := range api.MaxThreads {
					l, e := m.call(at, tvar, who)
					if want := m.told(t, at, tvar, who); e != api.OK || !slices.Equal(l, want) {
						t.Fatalf("%s(%d, %d, %d) is %v, %d, not %v", m.name, at, tvar, who, l, e, want)
					}
				}
			}
		}
	}
}

// TestExample: that of the chapter, and one of each other call at another place.
func TestExample(t *testing.T) {
	is := func(l []api.Ins, e api.Errno, want ...api.Ins) {
		t.Helper()
		if e != api.OK || !slices.Equal(l, want) {
			t.Errorf("it is %v, %d, not %v", l, e, want)
		}
	}
	up, e := Up(0, 3)
	is(up, e, api.Ins{Op: api.Atomic, Arg: 5}, api.Ins{Op: api.Get, Arg: 3}, api.Ins{Op: api.Push, Val: api.One}, api.Ins{Op: api.Add}, api.Ins{Op: api.Put, Arg: 3}, api.Ins{Op: api.End})
	lock, e := Lock(20, 11, 3)
	is(lock, e, api.Ins{Op: api.Atomic, Arg: 26}, api.Ins{Op: api.Get, Arg: 11}, api.Ins{Op: api.IfZero, Arg: 24}, api.Ins{Op: api.Retry},
		api.Ins{Op: api.Push, Val: value.Of(4)}, api.Ins{Op: api.Put, Arg: 11}, api.Ins{Op: api.End})
	down, e := Down(54, 0)
	is(down, e, api.Ins{Op: api.Atomic, Arg: 63}, api.Ins{Op: api.Get}, api.Ins{Op: api.Dup}, api.Ins{Op: api.IfZero, Arg: 62}, api.Ins{Op: api.Push, Val: api.One},
		api.Ins{Op: api.Sub}, api.Ins{Op: api.Put}, api.Ins{Op: api.Jump, Arg: 63}, api.Ins{Op: api.Retry}, api.Ins{Op: api.End})
	unlock, e := Unlock(1, 2, 0)
	is(unlock, e, api.Ins{Op: api.Atomic, Arg: 11}, api.Ins{Op: api.Get, Arg: 2}, api.Ins{Op: api.Push, Val: api.One}, api.Ins{Op: api.Same}, api.Ins{Op: api.IfZero, Arg: 10},
		api.Ins{Op: api.Push}, api.Ins{Op: api.Put, Arg: 2}, api.Ins{Op: api.Push, Val: api.One}, api.Ins{Op: api.Jump, Arg: 11}, api.Ins{Op: api.Push}, api.Ins{Op: api.End})
}

// TestErrors: P22.1, P2: ErrRange beyond each edge, and ahead of ErrSpace; ErrSpace from one place above the last one on; nothing else is answered with them.
func TestErrors(t *testing.T) {
	places := []int{math.MinInt, -1, 0, 1, 53, 54, 55, 57, 58, 59, 60, 63, api.MaxCode, api.MaxCode + 1, math.MaxInt - 3, math.MaxInt}
	tvars := []int{math.MinInt, -1, 0, api.MaxTvars - 1, api.MaxTvars, math.MaxInt}
	whos := []int{math.MinInt, -1, 0, api.MaxThreads - 1, api.MaxThreads, math.MaxInt}
	told := map[api.Errno]int{}
	for _, m := range blocks {
		for _, at := range places {
			for _, tvar := range tvars {
				for _, who := range whos {
					want := api.OK
					switch {
					case at < 0 || at > 64 || tvar < 0 || tvar > 11 || m.who && (who < 0 || who > 3):
						want = api.ErrRange
					case at+m.size() > 64:
						want = api.ErrSpace
					}
					told[want]++
					l, e := m.call(at, tvar, who)
					if e != want || (len(l) == m.size()) != (e == api.OK) || e != api.OK && len(l) > 0 {
						t.Fatalf("%s(%d, %d, %d) is %v, %d, not %d", m.name, at, tvar, who, l, e, want)
					}
				}
			}
		}
	}
	if told[api.OK] < 20 || told[api.ErrSpace] < 20 || told[api.ErrRange] < 20 {
		t.Error(told)
	}
}

// TestEnds: P22.1: a block that ends just at MaxCode, and one place above it.
func TestEnds(t *testing.T) {
	for i, last := range []int{57, 53, 54, 58} {
		m := blocks[i]
		l, e := m.call(last, 0, 0)
		if e != api.OK || last+len(l) != api.MaxCode {
			t.Errorf("%s(%d) is %v, %d", m.name, last, l, e)
		}
		for at := last + 1; at <= api.MaxCode; at++ {
			if l, e := m.call(at, 0, 0); e != api.ErrSpace || len(l) != 0 {
				t.Errorf("%s(%d) is %v, %d", m.name, at, l, e)
			}
		}
		if l, e := m.call(api.MaxCode+1, 0, 0); e != api.ErrRange || len(l) != 0 {
			t.Errorf("%s(65) is %v, %d", m.name, l, e)
		}
	}
}

// TestOwn: P3, P6: what is answered is the caller's, spare room too: nothing of it is answered again.
func TestOwn(t *testing.T) {
	for _, m := range blocks {
		var kept [][]api.Ins
		for range 3 {
			l, _ := m.call(4, 5, 2)
			if !slices.Equal(l, m.told(t, 4, 5, 2)) {
				t.Fatalf("%s is %v", m.name, l)
			}
			all := l[:cap(l)]
			for i := range all {
				all[i] = api.Ins{Op: 99, Arg: 99, Val: 99}
			}
			kept = append(kept, l)
		}
		kept[0][0].Arg = 7
		if kept[1][0].Arg != 99 || kept[2][0].Arg != 99 {
			t.Errorf("%s: two answers share memory", m.name)
		}
	}
}

// alone is a program of a block alone, from a place on: ahead of it stand Nops, behind it a Halt.
func alone(t *testing.T, m made, at, tvar, who int) []api.Ins {
	t.Helper()
	l, e := m.call(at, tvar, who)
	if e != api.OK {
		t.Fatalf("%s(%d, %d, %d): %d", m.name, at, tvar, who, e)
	}
	return slices.Concat(make([]api.Ins, at), l, []api.Ins{{Op: api.Halt}})
}

// TestMayBeRun: P22.2: with halt behind, each may be run, over all variables up to its own, and over no fewer.
func TestMayBeRun(t *testing.T) {
	for _, m := range blocks {
		for at := 0; at+m.size() < api.MaxCode; at++ {
			for tvar := range api.MaxTvars {
				who := (at + tvar) % api.MaxThreads
				l := alone(t, m, at, tvar, who)
				if place, e := verify.Check(l, tvar+1); place != 0 || e != api.OK {
					t.Fatalf("%s(%d, %d, %d): Check is %d, %d", m.name, at, tvar, who, place, e)
				}
				if place, e := verify.Check(l, tvar); place != at+1 || e != api.ErrRange {
					t.Fatalf("%s(%d, %d, %d): Check is %d, %d", m.name, at, tvar, who, place, e)
				}
			}
		}
	}
}

// numbers draws numbers below n, the same ones for the same seed.
func numbers(seed uint64) func(n int) int {
	return func(n int) int {
		seed = seed*6364136223846793005 + 1442695040888963407
		return int(seed >> 33 % uint64(n))
	}
}

// held is the variable of an object: of a mutex 0, or 1 and who has it; of a semaphore its number.
func held(o *object.Object) api.Val {
	s := o.Shape()
	if o.Kind() == api.Mutex {
		return value.Of(float64(s.Owner + 1))
	}
	return value.Of(float64(s.Count))
}

// does holds a block, run by spec over a heap in which a variable is an object's, against what the object says of the call, and answers the heap behind it.
func does(t *testing.T, draw func(int) int, m made, o *object.Object, heap []api.Val, tvar, who int) ([]api.Val, bool) {
	t.Helper()
	at := draw(api.MaxCode - m.size())
	l := alone(t, m, at, tvar, who)
	first := api.State{Pc: at, Stack: slices.Repeat([]api.Val{api.NaN}, draw(api.MaxStack-2)), Out: []api.Val{0}}
	first.Locals[2] = api.NegZero
	was := slices.Clone(heap)
	a := o.Do(api.Call{Kind: m.kind, Who: who})
	got := spec.Block(l, first, heap, m.size())
	want := api.Outcome{Kind: api.Finished, State: first, Heap: was}
	switch {
	case a.Errno != api.OK:
		t.Fatalf("%s: the object has %d", m.name, a.Errno)
	case a.Blocks:
		want.Kind = api.Retried
	default:
		want.State.Pc = at + m.size()
		want.Heap[tvar] = held(o)
	}
	if m.kind == api.UnlockIt {
		want.State.Stack = append(want.State.Stack, a.Val)
	}
	if got.Kind != want.Kind || got.Errno != api.OK || !slices.Equal(got.Heap, want.Heap) || got.State.Pc != want.State.Pc || !slices.Equal(got.State.Stack, want.State.Stack) ||
		got.State.Locals != want.State.Locals || !slices.Equal(got.State.Out, want.State.Out) {
		t.Fatalf("%s(%d, %d, %d) over %v comes to %+v, not to %+v", m.name, at, tvar, who, heap, got, want)
	}
	return got.Heap, a.Blocks
}

// TestMeaning: P22.3: over many drawn calls, by spec each block does to its variable what the object says of its call, leaves its answer, and touches nothing else.
func TestMeaning(t *testing.T) {
	draw := numbers(22)
	done, blocked := map[string]int{}, map[string]int{}
	for range 600 {
		of := blocks[2*draw(2):][:2]
		size := 0
		if of[0].of == api.Semaphore {
			size = draw(10)
		}
		o, tvar := object.New(of[0].of, size), draw(api.MaxTvars)
		heap := slices.Repeat([]api.Val{api.Infinity}, tvar+1+draw(api.MaxTvars-tvar))
		heap[tvar] = held(o)
		downs := 1 + draw(9)
		for range 40 {
			m := of[draw(downs+1)/downs]
			var shut bool
			heap, shut = does(t, draw, m, o, heap, tvar, draw(api.MaxThreads))
			if shut {
				blocked[m.name]++
			} else {
				done[m.name]++
			}
		}
	}
	for _, m := range blocks {
		never := m.name == "Unlock" || m.name == "Up"
		if done[m.name] < 500 || (blocked[m.name] > 500) == never {
			t.Errorf("%s: %d done, %d blocked", m.name, done[m.name], blocked[m.name])
		}
	}
}

// TestAllStates: P22.3: of each state that the objects can be in, and each thread.
func TestAllStates(t *testing.T) {
	draw := numbers(223)
	for who := range api.MaxThreads {
		for _, m := range blocks[:2] {
			does(t, draw, m, object.New(api.Mutex, 0), []api.Val{0}, 0, who)
			for owner := range api.MaxThreads {
				o := object.New(api.Mutex, 0)
				o.Do(api.Call{Kind: api.LockIt, Who: owner})
				does(t, draw, m, o, []api.Val{held(o)}, 0, who)
			}
		}
	}
	for n := range 99 {
		for _, m := range blocks[2:] {
			o := object.New(api.Semaphore, 0)
			for range n {
				o.Do(api.Call{Kind: api.UpIt})
			}
			does(t, draw, m, o, []api.Val{value.Of(float64(n))}, 0, 0)
		}
	}
}
