package machine

import (
	"slices"
	"testing"

	"rowlock/api"
)

// toRetry is how many steps retrying does up to its retry: begin, ask, the read, zero.
var toRetry = map[api.EngineKind]int{api.Tl2: 6, api.Norec: 5}

// registered is a machine whose thread 0 is registered for variable 0, and is to look again; another thread each has the other programs.
func registered(t *testing.T, k api.EngineKind, heap string, stripes int, others ...string) *Machine {
	t.Helper()
	m := made(t, k, heap, stripes, api.Karma, append([]string{retrying}, others...)...)
	runs(t, m, 0, toRetry[k])
	waiting(t, m)
	runs(t, m, 0, 1)
	waiting(t, m, 0)
	at(t, m, 0, 4, "")
	if _, has := m.Attempt(0); !has || m.lists.Asleep(0) || !slices.Equal(m.lists.Of(0), []int{0}) {
		t.Fatal("it is not registered")
	}
	return m
}

// backAgain holds thread 0 against having started again: its attempt has ended as it asked for, and the next one is the same block's.
func backAgain(t *testing.T, m *Machine, attempt int) {
	t.Helper()
	at(t, m, 0, 0, "")
	if _, has := m.Attempt(0); has || m.Why(attempt) != api.Asked || m.judge.Stamp(0) != attempt+1 {
		t.Fatal("it has not started again")
	}
}

// TestSleep: nothing has changed: it sleeps; its attempt has ended; its steps change nothing but the time, till it is woken.
func TestSleep(t *testing.T) {
	for _, k := range engines {
		m := registered(t, k, "0 0", 2, setting, "halt")
		plays(t, m, 0, "s")
		backAgain(t, m, 0)
		waiting(t, m, 0)
		was := lookAt(m)
		for range 4 {
			plays(t, m, 0, "s")
			was.time++
			same(t, m, was)
		}
		for m.Commits(1) == 0 {
			states(t, m, "srr")
			runs(t, m, 1, 1)
		}
		states(t, m, "rrr")
		waiting(t, m)
		backAgain(t, m, 0)
		runs(t, m, 0, 1)
		tries(t, m, 0, 0, 1, 1, false) // the same block's again
		if n, _ := m.Attempt(0); n != 2 {
			t.Errorf("its attempt is %d", n)
		}
		for range 12 {
			m.Step(0)
		}
		over(t, m, 0, api.Halted, api.OK)
		if m.Commits(0) != 1 {
			t.Errorf("%d blocks", m.Commits(0))
		}
	}
}

// TestSleepsOn: one that writes other variables alone, or none, or is aborted, wakes nobody.
func TestSleepsOn(t *testing.T) {
	for _, k := range engines {
		m := registered(t, k, "0 0", 1, "atomic, push 1, put 1, end, halt", "atomic, get 0, pop, end, halt", "atomic, push 1, put 0, push 20, getat 0, pop, end, halt")
		plays(t, m, 0, "s")
		for _, th := range []int{1, 2, 3} {
			for range 20 {
				m.Step(th)
			}
		}
		states(t, m, "shhx")
		waiting(t, m, 0)
	}
}

// TestDropped: a variable that was written by an arm that is dropped wakes nobody; one that it merged does.
func TestDropped(t *testing.T) {
	for _, k := range engines {
		m := registered(t, k, "0 0", 2, "atomic, orelse, push 1, put 0, retry, else, push 1, put 1, endor, end, halt", "atomic, orelse, push 1, put 0, else, endor, end, halt")
		plays(t, m, 0, "s")
		for range 40 {
			m.Step(1)
		}
		states(t, m, "shr")
		heap(t, m, "0 1")
		for range 40 {
			m.Step(2)
		}
		states(t, m, "rhh")
		heap(t, m, "1 1")
	}
}

// commits plays a thread till it has done a block.
func commits(t *testing.T, m *Machine, th int) {
	t.Helper()
	for m.Commits(th) == 0 {
		runs(t, m, th, 1)
	}
}

// locks plays a thread till it has a lock.
func locks(t *testing.T, m *Machine, th int) {
	t.Helper()
	for !m.engine.Holds(th) {
		runs(t, m, th, 1)
	}
}

// TestChangedMeanwhile: what it read was written between registering and looking again: it is woken, does not sleep, and starts again.
func TestChangedMeanwhile(t *testing.T) {
	for _, k := range engines {
		m := registered(t, k, "0 0", 2, setting)
		commits(t, m, 1)
		waiting(t, m)
		states(t, m, "rr")
		at(t, m, 0, 4, "")
		plays(t, m, 0, "r")
		backAgain(t, m, 0)
		waiting(t, m)
		for range 12 {
			m.Step(0)
		}
		over(t, m, 0, api.Halted, api.OK)
	}
}

// TestSameMeanwhile: it was written, but the same value stands there. It was woken: nobody would wake it again, so it does not sleep (P19.6), though over Norec all is as it was.
func TestSameMeanwhile(t *testing.T) {
	for _, k := range engines {
		m := registered(t, k, "0 0", 2, "atomic, push 0, put 0, end, halt", setting)
		commits(t, m, 1)
		waiting(t, m)
		if m.engine.Valid(0) != (k == api.Norec) {
			t.Fatal("Valid")
		}
		plays(t, m, 0, "r")
		backAgain(t, m, 0)
		runs(t, m, 0, toRetry[k]+1)
		waiting(t, m, 0)
		plays(t, m, 0, "s")
		commits(t, m, 2)
		states(t, m, "rrr")
	}
}

// TestReadWhileUnlocking: over Tl2 one may read what another one wrote ahead of that one's end, and is woken by that end: it does not sleep either.
func TestReadWhileUnlocking(t *testing.T) {
	// Variable 1's stripe is 0, which is unlocked first.
	m := made(t, api.Tl2, "1 0", 2, api.Karma, "atomic, get 1, pop, retry, end, halt", "atomic, push 0, put 0, push 1, put 1, end, halt")
	locks(t, m, 1)
	for len(m.Decided()) == 0 {
		runs(t, m, 1, 1)
	}
	runs(t, m, 0, 2)
	runs(t, m, 1, 3) // both writes, and the first stripe
	if !m.Locked() || m.engine.Holds(0) {
		t.Fatal("it is not unlocking")
	}
	runs(t, m, 0, 5)
	waiting(t, m, 0)
	if !m.engine.Valid(0) {
		t.Fatal("what it read is another one")
	}
	runs(t, m, 1, 1)
	if m.Commits(1) != 1 || !m.engine.Valid(0) {
		t.Fatal("it has not ended")
	}
	waiting(t, m)
	plays(t, m, 0, "r")
	backAgain(t, m, 1)
}

// TestOtherMeanwhile: another variable was written meanwhile: over Norec, and over Tl2 with another stripe, it sleeps; over Tl2 with the same stripe it can't tell, and starts again.
func TestOtherMeanwhile(t *testing.T) {
	rows := []struct {
		kind    api.EngineKind
		stripes int
		want    string
	}{{api.Tl2, 2, "s"}, {api.Norec, 2, "s"}, {api.Norec, 1, "s"}, {api.Tl2, 1, "r"}}
	for _, r := range rows {
		m := registered(t, r.kind, "0 0", r.stripes, "atomic, push 1, put 1, end, halt")
		commits(t, m, 1)
		waiting(t, m, 0)
		plays(t, m, 0, r.want)
		backAgain(t, m, 0)
		if r.want == "s" {
			waiting(t, m, 0)
		} else {
			waiting(t, m)
		}
	}
}

// TestLockedMeanwhile: a lock is held when it looks again: over Tl2 that of its own stripe counts alone, over Norec there is just one; it does not sleep, waits no more, and starts again.
func TestLockedMeanwhile(t *testing.T) {
	rows := []struct {
		kind    api.EngineKind
		stripes int
		tvar    string
		want    string
	}{{api.Tl2, 2, "0", "r"}, {api.Tl2, 1, "1", "r"}, {api.Tl2, 2, "1", "s"}, {api.Norec, 2, "0", "r"}, {api.Norec, 2, "1", "r"}}
	for _, r := range rows {
		m := registered(t, r.kind, "0 0", r.stripes, "atomic, push 1, put "+r.tvar+", end, halt")
		locks(t, m, 1)
		waiting(t, m, 0)
		plays(t, m, 0, r.want)
		backAgain(t, m, 0)
		if r.want == "s" {
			waiting(t, m, 0)
			continue
		}
		waiting(t, m)
		if r.kind == api.Norec {
			runs(t, m, 0, 3) // it can't begin
			if _, has := m.Attempt(0); has {
				t.Error("it has begun")
			}
		}
	}
}

// TestHalfRead: one of several variables that it read was written: it does not sleep; and all of them wake it.
func TestHalfRead(t *testing.T) {
	three := "atomic, orelse, get 2, pop, retry, else, get 1, pop, endor, get 0, pop, retry, end, halt"
	for _, k := range engines {
		for tvar := range 4 {
			for _, early := range []bool{true, false} {
				m := made(t, k, "0 0 0 0", 4, api.Greedy, three, "atomic, push 1, put "+string(rune('0'+tvar))+", end, halt")
				for len(m.Waiting()) == 0 {
					runs(t, m, 0, 1)
				}
				if !slices.Equal(m.lists.Of(0), []int{0, 1, 2}) {
					t.Fatalf("it waits for %v", m.lists.Of(0))
				}
				if !early {
					plays(t, m, 0, "s")
				}
				commits(t, m, 1)
				if woken := len(m.Waiting()) == 0; woken != (tvar < 3) {
					t.Fatalf("woken by %d: %v", tvar, woken)
				}
				if early {
					want := "r"
					if tvar == 3 {
						want = "s"
					}
					plays(t, m, 0, want)
				}
				if (m.StateOf(0) == api.Asleep) != (tvar == 3) {
					t.Fatalf("it is %d", m.StateOf(0))
				}
			}
		}
	}
}

// TestManyWait: all that wait are woken, asleep or not; Waiting is in the order in which they were registered.
func TestManyWait(t *testing.T) {
	for _, k := range engines {
		m := made(t, k, "0 0", 2, api.Polite, retrying, setting, retrying, retrying)
		for _, th := range []int{2, 0, 3} {
			runs(t, m, th, toRetry[k]+1)
		}
		waiting(t, m, 2, 0, 3)
		plays(t, m, 0, "s")
		plays(t, m, 3, "s")
		waiting(t, m, 2, 0, 3)
		states(t, m, "srrs")
		commits(t, m, 1)
		waiting(t, m)
		states(t, m, "rrrr")
		for _, th := range []int{0, 2, 3} {
			for range 13 {
				m.Step(th)
			}
		}
		plays(t, m, 1, "h")
		states(t, m, "hhhh")
	}
}

// TestNothingRead: a retry without any variable that was read can never be woken: Broken, and it starts again; what it wrote itself is no read.
func TestNothingRead(t *testing.T) {
	for _, k := range engines {
		m := made(t, k, "0", 1, api.Greedy, "push 4, atomic, retry, end, halt", "atomic, push 1, put 0, get 0, pop, retry, end, halt")
		runs(t, m, 0, 2)
		plays(t, m, 0, "x")
		over(t, m, 0, api.Broken, api.ErrRetry)
		at(t, m, 0, 1, "4")
		runs(t, m, 1, 7)
		plays(t, m, 1, "x")
		over(t, m, 1, api.Broken, api.ErrRetry)
		at(t, m, 1, 0, "")
		waiting(t, m)
		heap(t, m, "0")
		if m.Why(0) != api.Asked || m.Why(1) != api.Asked || m.Commits(1) != 0 {
			t.Errorf("Why is %d, %d", m.Why(0), m.Why(1))
		}
	}
}

// TestArms: DropIt and MergeIt: the document's third example: the first variable is 0, what its part did is undone, and the second one is taken.
func TestArms(t *testing.T) {
	take := "atomic, orelse, push 8, put 2, get 0, zero a, push 0, put 0, jump b, a:, retry, b:, else, get 1, zero c, push 0, put 1, jump d, c:, retry, d:, endor, end, halt"
	rows := [][2]string{{"1 1 5", "0 1 8"}, {"0 1 5", "0 0 5"}}
	for _, k := range engines {
		for _, r := range rows {
			m := made(t, k, r[0], 3, api.Karma, take)
			for range 60 {
				m.Step(0)
			}
			over(t, m, 0, api.Halted, api.OK)
			heap(t, m, r[1])
		}
		m := made(t, k, "0 0 5", 3, api.Karma, take, "atomic, push 1, put 1, end, halt")
		for range 60 {
			m.Step(0)
		}
		states(t, m, "sr")
		if !slices.Equal(m.lists.Of(0), []int{0, 1}) {
			t.Errorf("it waits for %v", m.lists.Of(0))
		}
		commits(t, m, 1)
		for range 60 {
			m.Step(0)
		}
		over(t, m, 0, api.Halted, api.OK)
		heap(t, m, "0 0 5")
	}
}
