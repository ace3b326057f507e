package thread

import (
	"testing"

	"rowlock/api"
)

// forked is a program with all that a thread keeps: a stack, locals, what is put out, marks, arms.
const forked = "push 3, out, push 4, set 0, push 6, push 7, atomic 21, orelse 9, nop, else 10, endor, pop, orelse 18, pop, orelse 16, push 8, else 17, endor, else 20, push 1, endor, end, out, halt"

// goOn lets a thread go on by one step; what it reads is v.
func goOn(th *Thread, v api.Val) {
	switch th.Step().Kind {
	case api.BeginNeed:
		th.Began()
	case api.AskNeed:
		th.Give(v)
	}
}

// at is a thread so many steps behind the beginning.
func at(l []api.Ins, n int) *Thread {
	th := New(l)
	for range n {
		goOn(th, val("5"))
	}
	return th
}

// spoil goes on with a thread as far as it goes, in another way than its original did, and starts it again where it can.
func spoil(t *testing.T, th, other *Thread, want look) {
	t.Helper()
	for k := range 30 {
		if k%7 == 3 {
			th.Restart()
		}
		goOn(th, val("9"))
		looks(t, other, want)
	}
}

// TestFork: P4: of a thread and its Fork, at each step, what becomes of the one changes nothing of the other one.
func TestFork(t *testing.T) {
	for _, text := range []string{forked, "push 3, atomic 9, orelse 8, orelse 6, get 0, retry, else 7, endor, else 8, endor, push 2, push 0, putat 3, nop, nop, out, end, halt"} {
		l := of(text)
		for n := range 30 {
			first, want := at(l, n), lookAt(at(l, n))
			fork := first.Fork()
			looks(t, fork, want)
			spoil(t, fork, first, want)
			looks(t, first, want)
			again := first.Fork()
			spoil(t, first, again, want)
			// What comes of the one that was left alone is what comes of any.
			plain := at(l, n)
			for range 12 {
				goOn(again, val("2"))
				goOn(plain, val("2"))
				looks(t, again, lookAt(plain))
			}
		}
	}
}

// TestForkNeeds: a Fork needs what its original told, and is given it by itself.
func TestForkNeeds(t *testing.T) {
	th := inside(t, "3", "get 0, end")
	steps(t, th, reads(0))
	fork := th.Fork()
	steps(t, fork, reads(0))
	fine(t, fork.Give(val("8")))
	looks(t, th, look{state: api.State{Pc: 2, Stack: vals("3")}, inside: true, needs: reads(0)})
	fine(t, th.Give(val("9")))
	looks(t, fork, look{state: api.State{Pc: 3, Stack: vals("3 8")}, inside: true})
	looks(t, th, look{state: api.State{Pc: 3, Stack: vals("3 9")}, inside: true})
	// Marks are their own, too: what is pushed behind one is dropped of one alone.
	th = inside(t, "3 4", "orelse 7, pop, push 8, retry, else 10, pop, push 9, endor")
	gives(t, th, pushIt, "0")
	fork = th.Fork()
	for _, one := range []*Thread{th, fork} {
		goes(t, one, 2)
		gives(t, one, drop, "0")
		looks(t, one, look{state: api.State{Pc: 8, Stack: vals("3 4")}, inside: true})
		goes(t, one, 3)
		looks(t, one, look{state: api.State{Pc: 11, Stack: vals("3 9")}, inside: true, left: []bool{false}})
	}
}

// TestForkState: each reads something else over what stood there.
func TestForkState(t *testing.T) {
	th := inside(t, "3 0", "getat 0, end")
	fork := th.Fork()
	gives(t, th, reads(0), "8")
	looks(t, fork, look{state: api.State{Pc: 3, Stack: vals("3 0")}, inside: true})
	gives(t, fork, reads(0), "9")
	looks(t, th, look{state: api.State{Pc: 4, Stack: vals("3 8")}, inside: true})
}

// TestForkFirst: both go back to the Atomic, and each reads something else over what stood there.
func TestForkFirst(t *testing.T) {
	th := inside(t, "3 0", "getat 0, end")
	fork := th.Fork()
	both := []*Thread{th, fork}
	for _, one := range both {
		fine(t, one.Restart())
		enters(t, one)
	}
	gives(t, th, reads(0), "8")
	looks(t, fork, look{state: api.State{Pc: 3, Stack: vals("3 0")}, inside: true})
	gives(t, fork, reads(0), "9")
	looks(t, th, look{state: api.State{Pc: 4, Stack: vals("3 8")}, inside: true})
	looks(t, fork, look{state: api.State{Pc: 4, Stack: vals("3 9")}, inside: true})
}

// TestForkMarks: both drop to a mark, and each reads something else over what stood there.
func TestForkMarks(t *testing.T) {
	th := inside(t, "3 0", "orelse 5, retry, else 7, getat 0, endor, end")
	gives(t, th, pushIt, "0")
	fork := th.Fork()
	for _, one := range []*Thread{th, fork} {
		gives(t, one, drop, "0")
	}
	gives(t, th, reads(0), "8")
	looks(t, fork, look{state: api.State{Pc: 6, Stack: vals("3 0")}, inside: true})
	gives(t, fork, reads(0), "9")
	looks(t, th, look{state: api.State{Pc: 7, Stack: vals("3 8")}, inside: true})
}

// TestForkArms: both have taken an arm, and take unlike ones then.
func TestForkArms(t *testing.T) {
	th := inside(t, "", "orelse 2, else 3, endor, orelse 8, get 0, zero 8, retry, else 9, endor, end")
	gives(t, th, pushIt, "0")
	gives(t, th, merge, "0")
	gives(t, th, pushIt, "0")
	fork := th.Fork()
	gives(t, th, reads(0), "0")
	goes(t, th, 1)
	gives(t, th, merge, "0")
	gives(t, fork, reads(0), "1")
	goes(t, fork, 1)
	gives(t, fork, drop, "0")
	goes(t, fork, 1)
	looks(t, th, look{state: api.State{Pc: 10}, inside: true, left: []bool{true, true}})
	looks(t, fork, look{state: api.State{Pc: 10}, inside: true, left: []bool{true, false}})
}
