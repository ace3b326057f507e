package thread

import (
	"math"
	"slices"
	"strconv"
	"testing"

	"rowlock/api"
)

func TestNew(t *testing.T) {
	for _, n := range []int{1, 2, api.MaxCode} {
		looks(t, New(make([]api.Ins, n)), look{})
		if New(make([]api.Ins, n)) == nil {
			t.Errorf("there is none of %d instructions", n)
		}
	}
	for _, l := range [][]api.Ins{nil, {}, make([]api.Ins, api.MaxCode+1), make([]api.Ins, 5000)} {
		if New(l) != nil {
			t.Errorf("there is one of %d instructions", len(l))
		}
	}
	// What is wrong in it is found when it comes to it.
	th := New([]api.Ins{{}, {Op: 99}})
	goes(t, th, 1)
	stucks(t, th, api.ErrForm)
}

func TestNil(t *testing.T) {
	var th *Thread
	for range 2 {
		if n := th.Step(); n != stuck(api.ErrNil) {
			t.Errorf("Step is %+v", n)
		}
		if th.Began() != api.ErrNil || th.Give(1) != api.ErrNil || th.Restart() != api.ErrNil || th.Fork() != nil {
			t.Error("a nil thread does something")
		}
		looks(t, th, look{})
	}
}

func TestExample(t *testing.T) {
	th := New(of("atomic 2, get 0, end, halt"))
	enters(t, th)
	gives(t, th, reads(0), "7")
	gives(t, th, commit, "0")
	steps(t, th, halts)
	looks(t, th, look{state: api.State{Pc: 3, Stack: vals("7")}, needs: halts})
}

// TestOutside: each operation outside of a block.
func TestOutside(t *testing.T) {
	th := New(of("push 3, dup, set 1, local 1, sub, zero 7, halt, push 4, push 5, swap, out, neg, not, out, nop, jump 17, halt, halt"))
	goes(t, th, 6)
	looks(t, th, look{state: api.State{Pc: 7, Locals: [4]api.Val{1: val("3")}}})
	goes(t, th, 9)
	steps(t, th, halts)
	looks(t, th, look{state: api.State{Pc: 17, Locals: [4]api.Val{1: val("3")}, Out: vals("4 0")}, needs: halts})
	for _, text := range []string{"get 0", "put 0", "getat 0", "putat 0", "end", "orelse 1", "else 1", "endor", "retry"} {
		th := New(of("push 0, push 0, " + text + ", halt"))
		goes(t, th, 2)
		stucks(t, th, api.ErrForm)
		looks(t, th, look{state: api.State{Pc: 2, Stack: vals("0 0")}, needs: stuck(api.ErrForm)})
	}
}

// TestOutsideStuck: outside it is stuck by spec.Step's error.
func TestOutsideStuck(t *testing.T) {
	rows := []struct {
		text  string
		n     int
		errno api.Errno
	}{
		{"nop", 1, api.ErrForm}, {"add", 0, api.ErrStack}, {"push 1, add", 1, api.ErrStack}, {times(13, "push 2"), 12, api.ErrStack},
		{"jump 2", 0, api.ErrRange}, {"jump 1", 1, api.ErrForm}, {"push 0, zero 9", 1, api.ErrRange}, {times(24, "push 1, out") + "push 1, out", 49, api.ErrSpace},
		{"local 4", 0, api.ErrForm}, {"nop 1", 0, api.ErrForm}, {"jump -1", 0, api.ErrForm}, {"jump 64", 0, api.ErrForm},
	}
	for _, r := range rows {
		th := New(of(r.text))
		goes(t, th, r.n)
		stucks(t, th, r.errno)
		if th.Began() != api.ErrState || th.Give(0) != api.ErrState || th.Restart() != api.ErrState {
			t.Errorf("%s: it goes on", r.text)
		}
	}
}

// TestNotRightOutside: an Atomic is one, and a Halt, also where it is not right, as in spec.Plain.
func TestNotRightOutside(t *testing.T) {
	steps(t, New([]api.Ins{{Op: api.Halt, Arg: 5}}), halts)
	th := New([]api.Ins{{Op: api.Atomic, Arg: -1, Val: 3}, {Op: api.End}})
	enters(t, th)
	gives(t, th, commit, "0")
	stucks(t, th, api.ErrForm)
}

// TestBegan: into the block, and where it may not be called.
func TestBegan(t *testing.T) {
	th := New(of("push 3, atomic 3, nop, end, halt"))
	if th.Began() != api.ErrState {
		t.Error("it began ahead of the first step")
	}
	goes(t, th, 1)
	if th.Began() != api.ErrState {
		t.Error("it began ahead of the Atomic's step")
	}
	steps(t, th, begins)
	looks(t, th, look{state: api.State{Pc: 1, Stack: vals("3")}, needs: begins})
	fine(t, th.Began())
	looks(t, th, look{state: api.State{Pc: 2, Stack: vals("3")}, inside: true})
	if th.Began() != api.ErrState {
		t.Error("it began twice")
	}
	goes(t, th, 1)
	steps(t, th, commit)
	if th.Began() != api.ErrState {
		t.Error("it began where it asks")
	}
	fine(t, th.Give(0))
	steps(t, th, halts)
	if th.Began() != api.ErrState {
		t.Error("it began where it halts")
	}
	looks(t, th, look{state: api.State{Pc: 4, Stack: vals("3")}, needs: halts})
}

// TestInsideAlone: what hangs on the State alone goes on within a block, too.
func TestInsideAlone(t *testing.T) {
	th := inside(t, "3", "dup, set 1, local 1, less, not, zero 8, jump 9, push 5, push 6, mul, nop, end")
	goes(t, th, 7)
	looks(t, th, look{state: api.State{Pc: 9, Locals: [4]api.Val{1: val("3")}}, inside: true})
	goes(t, th, 4)
	looks(t, th, look{state: api.State{Pc: 13, Stack: vals("30"), Locals: [4]api.Val{1: val("3")}}, inside: true})
	gives(t, th, commit, "9")
	looks(t, th, look{state: api.State{Pc: 14, Stack: vals("30"), Locals: [4]api.Val{1: val("3")}}})
}

func TestReads(t *testing.T) {
	for tvar := range api.MaxTvars {
		th := inside(t, "4", "get "+strconv.Itoa(tvar)+", end")
		steps(t, th, reads(tvar))
		looks(t, th, look{state: api.State{Pc: 2, Stack: vals("4")}, inside: true, needs: reads(tvar)})
		fine(t, th.Give(val("9")))
		looks(t, th, look{state: api.State{Pc: 3, Stack: vals("4 9")}, inside: true})
	}
	for arg := range api.MaxTvars {
		for n := range api.MaxTvars - arg {
			th := inside(t, "4 "+strconv.Itoa(n), "getat "+strconv.Itoa(arg)+", end")
			steps(t, th, reads(arg+n))
			looks(t, th, look{state: api.State{Pc: 3, Stack: vals("4")}, inside: true, needs: reads(arg + n)})
			fine(t, th.Give(val("-0")))
			looks(t, th, look{state: api.State{Pc: 4, Stack: vals("4 -0")}, inside: true})
		}
	}
	steps(t, inside(t, "-0", "getat 3"), reads(3))
}

// TestGivenBits: what is not right is pushed as NaN.
func TestGivenBits(t *testing.T) {
	for _, v := range []api.Val{api.NaN, api.NaN + 1, api.NaN | api.NegZero, api.Infinity + 1, math.MaxUint64} {
		th := inside(t, "", "get 0, push 0, getat 1, end")
		steps(t, th, reads(0))
		fine(t, th.Give(v))
		goes(t, th, 1)
		steps(t, th, reads(1))
		fine(t, th.Give(v))
		looks(t, th, look{state: api.State{Pc: 4, Stack: vals("nan nan")}, inside: true})
	}
	for _, v := range []api.Val{0, 1, api.One, api.Infinity, api.NegZero, api.Infinity | api.NegZero} {
		th := inside(t, "", "get 0")
		steps(t, th, reads(0))
		fine(t, th.Give(v))
		looks(t, th, look{state: api.State{Pc: 2, Stack: []api.Val{v}}, inside: true})
	}
}

func TestWrites(t *testing.T) {
	for tvar := range api.MaxTvars {
		th := inside(t, "4 5", "put "+strconv.Itoa(tvar)+", end")
		steps(t, th, writes(tvar, "5"))
		looks(t, th, look{state: api.State{Pc: 3, Stack: vals("4")}, inside: true, needs: writes(tvar, "5")})
		fine(t, th.Give(api.NaN+1))
		looks(t, th, look{state: api.State{Pc: 4, Stack: vals("4")}, inside: true})
	}
	for arg := range api.MaxTvars {
		for n := range api.MaxTvars - arg {
			th := inside(t, "4 nan "+strconv.Itoa(n), "putat "+strconv.Itoa(arg)+", end")
			steps(t, th, writes(arg+n, "nan"))
			looks(t, th, look{state: api.State{Pc: 4, Stack: vals("4")}, inside: true, needs: writes(arg+n, "nan")})
			fine(t, th.Give(val("8")))
			looks(t, th, look{state: api.State{Pc: 5, Stack: vals("4")}, inside: true})
		}
	}
}

// TestNoVariable: indexes that may not be: nothing is popped.
func TestNoVariable(t *testing.T) {
	for _, index := range []string{"-1", "-5", "7", "8", "12", "0.5", "-0.5", "6.5", "nan", "inf", "-inf", "9007199254740992", "1e300"} {
		stucks(t, inside(t, "3 "+index, "getat 5"), api.ErrRange)
		stucks(t, inside(t, "3 "+index, "putat 5"), api.ErrRange)
	}
	steps(t, inside(t, "3 6", "getat 5"), reads(11))
	steps(t, inside(t, "3 6", "putat 5"), writes(11, "3"))
	stucks(t, inside(t, "12", "getat 0"), api.ErrRange)
	stucks(t, inside(t, "1", "getat 11"), api.ErrRange)
	steps(t, inside(t, "11", "getat 0"), reads(11))
}

// TestHeights: what pops more than stands there, or pushes more than has room.
func TestHeights(t *testing.T) {
	const full = "0 0 0 0 0 0 0 0 0 0 0 0"
	for _, text := range []string{"put 0", "getat 0", "pop", "zero 3", "dup", "set 0"} {
		stucks(t, inside(t, "", text), api.ErrStack)
	}
	for _, text := range []string{"putat 0", "add", "swap"} {
		stucks(t, inside(t, "", text), api.ErrStack)
		stucks(t, inside(t, "0", text), api.ErrStack)
	}
	for _, text := range []string{"get 0", "push 1", "local 0", "dup"} {
		stucks(t, inside(t, full, text), api.ErrStack)
	}
	for text, want := range map[string]api.Need{"put 0": writes(0, "0"), "getat 0": reads(0), "putat 0": writes(0, "0"), "orelse 20": pushIt, "retry": retry, "end": commit, "endor": none, "swap": none} {
		steps(t, inside(t, full, text), want)
	}
	steps(t, inside(t, full[2:], "get 0"), reads(0))
	// The index comes behind what is missing.
	stucks(t, inside(t, "nan", "putat 0"), api.ErrStack)
}

// TestInsideWrong: what may not be in a block, what is no place, and what is not right.
func TestInsideWrong(t *testing.T) {
	for _, text := range []string{"out", "halt", "atomic 1", "", "nop 1", "get 12", "getat -1", "end 1", "orelse 64", "else -1", "endor 1", "retry 1", "put 99", "putat 12", "out 1"} {
		stucks(t, inside(t, "0 0", text), api.ErrForm)
		if th := inside(t, "", text); th.Step() != stuck(api.ErrForm) {
			t.Errorf("%s is %+v", text, th.Needs())
		}
	}
	stucks(t, inside(t, "", "else 2"), api.ErrForm)
	stucks(t, inside(t, "", "jump 20"), api.ErrRange)
	th := inside(t, "", "jump 2")
	goes(t, th, 1)
	stucks(t, th, api.ErrForm)
	// What is stuck in a block goes back to the Atomic by Restart.
	fine(t, th.Restart())
	looks(t, th, look{})
	steps(t, th, begins)
}

// TestGiveWhere: Give is ErrState, unless something is asked for, and changes nothing then.
func TestGiveWhere(t *testing.T) {
	refuse := func(th *Thread) {
		t.Helper()
		was := lookAt(th)
		if errno := th.Give(val("9")); errno != api.ErrState {
			t.Errorf("Give is %d", errno)
		}
		looks(t, th, was)
	}
	th := New(of("nop, atomic 4, get 0, retry, end"))
	refuse(th)
	goes(t, th, 1)
	refuse(th)
	steps(t, th, begins)
	refuse(th)
	fine(t, th.Began())
	refuse(th)
	gives(t, th, reads(0), "4")
	refuse(th)
	steps(t, th, retry)
	refuse(th)
	fine(t, th.Restart())
	refuse(th)
	th = New(of("halt"))
	steps(t, th, halts)
	refuse(th)
	th = New(of("pop"))
	steps(t, th, stuck(api.ErrStack))
	refuse(th)
}

// TestLeftArmEnds: the mark goes at the arm's end, which is told then.
func TestLeftArmEnds(t *testing.T) {
	th := inside(t, "3", "orelse 5, push 4, nop, else 7, nop, endor, end, halt")
	steps(t, th, pushIt)
	looks(t, th, look{state: api.State{Pc: 2, Stack: vals("3")}, inside: true, needs: pushIt})
	fine(t, th.Give(val("9")))
	looks(t, th, look{state: api.State{Pc: 3, Stack: vals("3")}, inside: true, marks: 1})
	goes(t, th, 2)
	steps(t, th, merge)
	looks(t, th, look{state: api.State{Pc: 5, Stack: vals("3 4")}, inside: true, marks: 1, needs: merge})
	fine(t, th.Give(val("9")))
	looks(t, th, look{state: api.State{Pc: 8, Stack: vals("3 4")}, inside: true, left: []bool{true}})
	gives(t, th, commit, "9")
	looks(t, th, look{state: api.State{Pc: 9, Stack: vals("3 4")}, left: []bool{true}})
	steps(t, th, halts)
	looks(t, th, look{state: api.State{Pc: 9, Stack: vals("3 4")}, needs: halts, left: []bool{true}})
}

// TestLeftArmRetries: the State is that of the mark.
func TestLeftArmRetries(t *testing.T) {
	th := inside(t, "3 7", "orelse 8, pop, push 4, set 2, retry, else 10, nop, endor, end")
	gives(t, th, pushIt, "9")
	goes(t, th, 3)
	steps(t, th, drop)
	looks(t, th, look{state: api.State{Pc: 7, Stack: vals("3"), Locals: [4]api.Val{2: val("4")}}, inside: true, marks: 1, needs: drop})
	fine(t, th.Give(val("9")))
	looks(t, th, look{state: api.State{Pc: 9, Stack: vals("3 7")}, inside: true})
	goes(t, th, 1)
	looks(t, th, look{state: api.State{Pc: 10, Stack: vals("3 7")}, inside: true})
	goes(t, th, 1)
	looks(t, th, look{state: api.State{Pc: 11, Stack: vals("3 7")}, inside: true, left: []bool{false}})
	gives(t, th, commit, "9")
	looks(t, th, look{state: api.State{Pc: 12, Stack: vals("3 7")}, left: []bool{false}})
}

// TestMarks: up to MaxDepth left arms within one another, and more: how many there may be is the engine's to say.
func TestMarks(t *testing.T) {
	for _, n := range []int{1, 2, api.MaxDepth, api.MaxDepth + 1, 10} {
		var l []api.Ins
		for at := range n {
			l = append(l, of("push "+strconv.Itoa(at)+", orelse 60")...)
		}
		l = append(of("atomic 9"), append(l, of("retry")...)...)
		for len(l) < 61 {
			l = append(l, api.Ins{})
		}
		l = append(l, of("retry, end")...)
		th := New(l)
		enters(t, th)
		for at := range n {
			goes(t, th, 1)
			if th.Marks() != at {
				t.Errorf("%d marks, not %d", th.Marks(), at)
			}
			gives(t, th, pushIt, "0")
		}
		for at := n; at > 0; at-- {
			if th.Marks() != at {
				t.Errorf("%d marks, not %d", th.Marks(), at)
			}
			gives(t, th, drop, "0")
			s := th.State()
			if s.Pc != 61 || len(s.Stack) != at || s.Stack[at-1] != val(strconv.Itoa(at-1)) {
				t.Errorf("behind %d it is %+v", at, s)
			}
		}
		steps(t, th, retry)
		looks(t, th, look{state: api.State{Pc: 61, Stack: vals("0")}, inside: true, needs: retry})
	}
}

// TestLeft: all arms that came to an end, in order, of the block that it is in, or was in last.
func TestLeft(t *testing.T) {
	th := New(of("atomic 10, orelse 7, orelse 4, nop, else 5, endor, retry, else 9, nop, endor, end, nop, atomic 16, orelse 14, else 15, endor, end, halt"))
	enters(t, th)
	gives(t, th, pushIt, "0")
	gives(t, th, pushIt, "0")
	goes(t, th, 1)
	gives(t, th, merge, "0")
	looks(t, th, look{state: api.State{Pc: 6}, inside: true, marks: 1, left: []bool{true}})
	gives(t, th, drop, "0")
	// The arm within had come to its end: spec's Arms have it, too.
	looks(t, th, look{state: api.State{Pc: 8}, inside: true, left: []bool{true}})
	goes(t, th, 2)
	gives(t, th, commit, "0")
	goes(t, th, 1)
	steps(t, th, begins)
	looks(t, th, look{state: api.State{Pc: 12}, needs: begins, left: []bool{true, false}})
	fine(t, th.Began())
	looks(t, th, look{state: api.State{Pc: 13}, inside: true})
	gives(t, th, pushIt, "0")
	gives(t, th, merge, "0")
	looks(t, th, look{state: api.State{Pc: 16}, inside: true, left: []bool{true}})
	fine(t, th.Restart())
	looks(t, th, look{state: api.State{Pc: 12}})
}

// TestRestart: from each step of a block back to the Atomic.
func TestRestart(t *testing.T) {
	l := of("push 3, push 4, set 1, push 8, out, atomic 19, pop, push 5, set 1, get 0, orelse 14, push 2, put 0, retry, else 18, push 1, push 2, putat 1, endor, end, halt")
	at := look{state: api.State{Pc: 5, Stack: vals("3"), Locals: [4]api.Val{1: val("4")}, Out: vals("8")}}
	for n := range 19 {
		for _, ask := range []bool{false, true} {
			th := New(l)
			goes(t, th, 5)
			if th.Restart() != api.ErrState {
				t.Error("it starts again ahead of the block")
			}
			steps(t, th, begins)
			if th.Restart() != api.ErrState {
				t.Error("it starts again ahead of the attempt")
			}
			fine(t, th.Began())
			for range n {
				if th.Inside() && th.Step().Kind == api.AskNeed {
					fine(t, th.Give(val("7")))
				}
			}
			if ask {
				th.Step()
			}
			if !th.Inside() {
				if th.Restart() != api.ErrState || th.State().Pc != 20 {
					t.Errorf("it starts again behind the block, at %+v", th.State())
				}
				continue
			}
			fine(t, th.Restart())
			looks(t, th, at)
			if th.Restart() != api.ErrState {
				t.Error("it starts again twice")
			}
			steps(t, th, begins)
			want := at
			want.needs = begins
			looks(t, th, want)
			fine(t, th.Began())
			looks(t, th, look{state: api.State{Pc: 6, Stack: vals("3"), Locals: [4]api.Val{1: val("4")}, Out: vals("8")}, inside: true})
		}
	}
}

// TestRetryNeed: it stays where it is, till it is started again.
func TestRetryNeed(t *testing.T) {
	th := inside(t, "3", "push 4, retry, end")
	goes(t, th, 1)
	steps(t, th, retry)
	looks(t, th, look{state: api.State{Pc: 3, Stack: vals("3 4")}, inside: true, needs: retry})
	if th.Began() != api.ErrState || th.Give(0) != api.ErrState {
		t.Error("it goes on")
	}
	fine(t, th.Restart())
	looks(t, th, look{state: api.State{Pc: 1, Stack: vals("3")}})
}

// TestLeftOpen: a block that ends with a mark has none behind it; which Else comes is of no matter.
func TestLeftOpen(t *testing.T) {
	th := inside(t, "", "orelse 9, end, halt")
	gives(t, th, pushIt, "0")
	looks(t, th, look{state: api.State{Pc: 2}, inside: true, marks: 1})
	gives(t, th, commit, "0")
	looks(t, th, look{state: api.State{Pc: 3}})
	th = inside(t, "", "endor, orelse 60, orelse 3, else 63")
	goes(t, th, 1)
	gives(t, th, pushIt, "0")
	gives(t, th, pushIt, "0")
	gives(t, th, merge, "0")
	looks(t, th, look{state: api.State{Pc: 64}, inside: true, marks: 1, left: []bool{false, true}})
	stucks(t, th, api.ErrForm)
}

// TestTwoBlocks: what one block left stands there for the next one, which goes back to its own Atomic.
func TestTwoBlocks(t *testing.T) {
	th := New(of("atomic 2, get 0, end, atomic 5, get 1, end, add, out, halt"))
	enters(t, th)
	gives(t, th, reads(0), "5")
	gives(t, th, commit, "0")
	enters(t, th)
	gives(t, th, reads(1), "6")
	fine(t, th.Restart())
	looks(t, th, look{state: api.State{Pc: 3, Stack: vals("5")}})
	enters(t, th)
	gives(t, th, reads(1), "7")
	gives(t, th, commit, "0")
	goes(t, th, 2)
	steps(t, th, halts)
	looks(t, th, look{state: api.State{Pc: 8, Out: vals("12")}, needs: halts})
}

// TestLongest: a program of MaxCode instructions, up to its last one.
func TestLongest(t *testing.T) {
	th := New(of("jump 62, " + times(61, "nop") + "atomic 63, end"))
	goes(t, th, 1)
	enters(t, th)
	gives(t, th, commit, "0")
	looks(t, th, look{state: api.State{Pc: 64}})
	stucks(t, th, api.ErrForm)
}

// TestStays: the program that is handed in stays, and may be changed then; what is answered is the caller's.
func TestStays(t *testing.T) {
	room := append(of("push 3, out, push 4, atomic 11, orelse 8, push 5, get 0, retry, else 10, nop, endor, end, halt"), api.Ins{Op: 77})
	was := slices.Clone(room)
	th := New(room[:13])
	other := New(was[:13])
	clear(room)
	for n := range 16 {
		if a, b := th.Step(), other.Step(); a != b {
			t.Fatalf("step %d is %+v, not %+v", n, a, b)
		}
		for _, one := range []*Thread{th, other} {
			if one.Began() != api.OK {
				one.Give(val("6"))
			}
		}
		s, left := th.State(), th.Left()
		for _, l := range [][]api.Val{s.Stack[:cap(s.Stack)], s.Out[:cap(s.Out)]} {
			for at := range l {
				l[at] = 66
			}
		}
		for at := range left {
			left[at] = !left[at]
		}
		looks(t, th, lookAt(other))
	}
	steps(t, th, halts)
	if len(was) != 14 || was[13].Op != 77 {
		t.Error("what was handed in has changed")
	}
}
