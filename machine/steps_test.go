package machine

import (
	"slices"
	"strings"
	"testing"

	"rowlock/api"
	"rowlock/value"
)

// kinds are the kinds of events, in order.
func kinds(m *Machine) []api.EventKind {
	var l []api.EventKind
	for _, e := range m.Events() {
		l = append(l, e.Kind)
	}
	return l
}

// TestAlone: a thread alone, step by step: where it is, what it asks, what the manager knows, and that each step is one of the engine or one of the thread.
func TestAlone(t *testing.T) {
	m := made(t, api.Tl2, "4", 1, api.Karma, adding)
	steps := []struct {
		pc     int
		stack  string
		asked  api.AskKind
		events int
		merit  int
	}{
		{1, "", 0, 1, 0},            // begins
		{1, "", api.ReadIt, 1, 0},   // asks
		{1, "", api.ReadIt, 1, 0},   // the word
		{1, "", api.ReadIt, 1, 0},   // the value
		{2, "4", 0, 2, 1},           // read
		{3, "4 1", 0, 2, 1},         // push
		{4, "5", 0, 2, 1},           // add
		{4, "", api.WriteIt, 2, 1},  // asks
		{5, "", 0, 3, 2},            // written
		{5, "", api.CommitIt, 3, 2}, // asks
		{5, "", api.CommitIt, 4, 2}, // tries
		{5, "", api.CommitIt, 4, 2}, // locks
		{5, "", api.CommitIt, 4, 2}, // the clock
		{5, "", api.CommitIt, 4, 2}, // a read
		{5, "", api.CommitIt, 4, 2}, // decided
		{5, "", api.CommitIt, 4, 2}, // a write
		{6, "", 0, 5, 0},            // unlocked, committed
	}
	for i, s := range steps {
		runs(t, m, 0, 1)
		at(t, m, 0, s.pc, s.stack)
		a, _ := m.engine.Asked(0)
		if a.Kind != s.asked || len(m.Events()) != s.events || m.judge.Merit(0) != s.merit {
			t.Errorf("step %d: asked %d, %d events, merit %d", i+1, a.Kind, len(m.Events()), m.judge.Merit(0))
		}
		if locked := i >= 11 && i < 16; m.Locked() != locked || len(m.Decided()) > 0 != (i == 14 || i == 15) {
			t.Errorf("step %d: locked %v, decided %v", i+1, m.Locked(), m.Decided())
		}
		if done := i == 16; (m.Commits(0) == 1) != done || (m.judge.Stamp(0) == 0) != done {
			t.Errorf("step %d: %d commits, stamp %d", i+1, m.Commits(0), m.judge.Stamp(0))
		}
	}
	heap(t, m, "5")
	plays(t, m, 0, "h")
	over(t, m, 0, api.Halted, api.OK)
	want := []api.EventKind{api.Began, api.Read, api.Wrote, api.Tried, api.Committed}
	if !slices.Equal(kinds(m), want) {
		t.Errorf("Events are %v", m.Events())
	}
}

// TestAloneNorec: likewise over the other engine.
func TestAloneNorec(t *testing.T) {
	m := made(t, api.Norec, "4", -7, api.Greedy, adding)
	runs(t, m, 0, 1)
	tries(t, m, 0, 0, 0, 1, false)
	runs(t, m, 0, 3)
	at(t, m, 0, 2, "4")
	tries(t, m, 0, 0, 1, 1, false)
	runs(t, m, 0, 6)
	if m.Locked() {
		t.Error("it is locked")
	}
	runs(t, m, 0, 1)
	heap(t, m, "4")
	if !m.Locked() || !slices.Equal(m.Decided(), []int{0}) {
		t.Error("it is not locked")
	}
	runs(t, m, 0, 1)
	heap(t, m, "5")
	runs(t, m, 0, 1)
	if m.Locked() || m.Commits(0) != 1 || len(m.Decided()) != 0 {
		t.Error("it is locked")
	}
	tries(t, m, 0, 0, 0, 0, false)
	plays(t, m, 0, "h")
	over(t, m, 0, api.Halted, api.OK)
}

// TestOutside: what a thread does outside of a block is a step each; blocks that are done count, and each is new to the manager.
func TestOutside(t *testing.T) {
	for _, k := range engines {
		m := made(t, k, "0", 1, api.Greedy, "push 3, out, atomic, end, atomic, push 2, put 0, end, push 4, out, halt", "atomic, end, halt")
		runs(t, m, 0, 2)
		tries(t, m, 0, 0, 0, 0, false)
		runs(t, m, 0, 1) // begins
		tries(t, m, 0, 0, 0, 1, false)
		runs(t, m, 1, 1)
		tries(t, m, 1, 0, 0, 2, false)
		runs(t, m, 0, 2) // asks, commits
		tries(t, m, 0, 0, 0, 0, false)
		runs(t, m, 0, 1)
		tries(t, m, 0, 0, 0, 3, false)
		for range 8 {
			m.Step(0)
		}
		if m.StateOf(0) == api.Running {
			for range 8 {
				m.Step(0)
			}
		}
		over(t, m, 0, api.Halted, api.OK)
		if m.Commits(0) != 2 || !slices.Equal(m.Thread(0).Out, vals("3 4")) {
			t.Errorf("%d blocks, %+v", m.Commits(0), m.Thread(0))
		}
		heap(t, m, "2")
	}
}

// inTheWay is a machine over Tl2 in which thread 0 has the lock that thread 1 needs for its first read, and is not decided; who began first is told.
func inTheWay(t *testing.T, mk api.ManagerKind, first int) *Machine {
	t.Helper()
	m := made(t, api.Tl2, "0", 1, mk, adding, adding)
	runs(t, m, first, 1)
	runs(t, m, 1-first, 1)
	runs(t, m, 0, 11)
	if !m.engine.Holds(0) || len(m.Decided()) != 0 {
		t.Fatal("thread 0 has no lock, or is decided")
	}
	runs(t, m, 1, 1)
	return m
}

// TestPolite: busy: it backs 1, 2, 4, 8 ticks, tick by tick, and then the other one is killed, which starts again.
func TestPolite(t *testing.T) {
	m := inTheWay(t, api.Polite, 0)
	for n, row := range []string{"b r", "bb r", "bbbb r", "bbbbbbbb r"} {
		plays(t, m, 1, row)
		tries(t, m, 1, n+1, 0, 2, false)
		at(t, m, 1, 1, "")
	}
	tries(t, m, 0, 0, 2, 1, false)
	plays(t, m, 1, "r") // thread 0 is killed
	states(t, m, "rr")
	at(t, m, 0, 0, "")
	if _, has := m.Attempt(0); has || m.Why(0) != api.Killed || m.Locked() {
		t.Error("it is not killed")
	}
	tries(t, m, 0, 0, 2, 1, false) // the same block's: merit and stamp stay
	tries(t, m, 1, 4, 0, 2, false)
	runs(t, m, 1, 3)
	tries(t, m, 1, 0, 1, 2, false) // nobody is in its way any more
	runs(t, m, 0, 1)
	tries(t, m, 0, 0, 2, 1, false)
	if n, ok := m.Attempt(0); n != 2 || !ok {
		t.Errorf("its attempt is %d", n)
	}
	for range 60 {
		m.Step(0)
		m.Step(1)
	}
	states(t, m, "hh")
	heap(t, m, "2")
}

// TestPoliteDecided: one that is decided can't be killed: who should kill it backs 1 tick, again and again, till it is done.
func TestPoliteDecided(t *testing.T) {
	m := inTheWay(t, api.Polite, 0)
	plays(t, m, 1, "br bbr bbbbr bbbbbbbbr")
	runs(t, m, 0, 3)
	if len(m.Decided()) != 1 {
		t.Fatal("it is not decided")
	}
	was := m.Events()
	for range 5 {
		plays(t, m, 1, "b r")
		tries(t, m, 1, 4, 0, 2, false)
	}
	at(t, m, 0, 5, "")
	if !slices.Equal(m.Events(), was) || m.Why(0) != api.NoReason {
		t.Error("something became of it")
	}
	runs(t, m, 0, 2)
	if m.Commits(0) != 1 || m.StateOf(1) != api.Running {
		t.Error("it has not committed")
	}
	runs(t, m, 1, 1) // it read nothing yet, but began ahead of that: it is aborted
	if m.Why(1) != api.Changed {
		t.Errorf("Why is %d", m.Why(1))
	}
	at(t, m, 1, 0, "")
	tries(t, m, 1, 4, 0, 2, false)
	runs(t, m, 1, 1)
	tries(t, m, 1, 0, 0, 2, false)
}

// TestKarma: busy: it waits 1 tick each time, till its tries are above what the other one did.
func TestKarma(t *testing.T) {
	m := inTheWay(t, api.Karma, 0)
	for n := range 3 {
		plays(t, m, 1, "b r")
		tries(t, m, 1, n+1, 0, 2, false)
	}
	plays(t, m, 1, "r")
	if m.Why(0) != api.Killed {
		t.Error("it is not killed")
	}
	at(t, m, 0, 0, "")
	tries(t, m, 0, 0, 2, 1, false)
	runs(t, m, 1, 3)
	tries(t, m, 1, 0, 1, 2, false)
	// And of one that is decided.
	m = inTheWay(t, api.Karma, 0)
	runs(t, m, 0, 3)
	plays(t, m, 1, "br br br br br br")
	if len(m.Decided()) != 1 || m.judge.Tries(1) != 3 {
		t.Errorf("%v, %d", m.Decided(), m.judge.Tries(1))
	}
}

// TestGreedy: who began later waits, till the other one is done; who began earlier kills.
func TestGreedy(t *testing.T) {
	m := inTheWay(t, api.Greedy, 0)
	for n := range 12 {
		plays(t, m, 1, "b r")
		tries(t, m, 1, n+1, 0, 2, true)
	}
	runs(t, m, 0, 5)
	if m.Commits(0) != 1 {
		t.Error("it has not committed")
	}
	m = inTheWay(t, api.Greedy, 1)
	plays(t, m, 1, "r")
	if m.Why(1) != api.Killed || m.Locked() {
		t.Error("it is not killed")
	}
	tries(t, m, 0, 0, 2, 2, false)
	tries(t, m, 1, 0, 0, 1, false)
	at(t, m, 0, 0, "")
	// And of one that is decided.
	m = inTheWay(t, api.Greedy, 1)
	runs(t, m, 0, 3)
	plays(t, m, 1, "b r b r b r")
	tries(t, m, 1, 0, 0, 1, false)
	at(t, m, 0, 5, "")
}

// TestKilledBacks: one that backs, with a lock, and is killed meanwhile, is Running again, without the ticks that were left.
func TestKilledBacks(t *testing.T) {
	for _, left := range []int{0, 1, 2, 3} {
		// Of two stripes 0 and 1, thread 0 locks one and waits for the other one, that thread 1 has; thread 2 needs the first one.
		both := "atomic, push 1, put 0, push 1, put 1, end, halt"
		m := made(t, api.Tl2, "0 0", 2, api.Polite, both, "atomic, push 1, put 0, end, halt", "atomic, get 1, pop, end, halt")
		runs(t, m, 1, 7) // begin, push, ask, write, ask, try, lock
		runs(t, m, 0, 10)
		if !m.engine.Holds(0) || !m.engine.Holds(1) {
			t.Fatal("they have no locks")
		}
		runs(t, m, 2, 2)
		plays(t, m, 2, "br bbr bbbbr bbbbbbbbr")
		plays(t, m, 0, "br bbr b")
		plays(t, m, 0, strings.Repeat("b", left))
		states(t, m, "brr")
		plays(t, m, 2, "r")
		states(t, m, "rrr")
		if m.Why(1) != api.Killed {
			t.Errorf("Why is %d", m.Why(1))
		}
		at(t, m, 0, 0, "")
		runs(t, m, 0, 1)
		tries(t, m, 0, 0, 2, 2, false)
		runs(t, m, 1, 3)
		heap(t, m, "1 0")
	}
}

// TestNorecBusy: over Norec who has the lock is decided: the manager may say what it will.
func TestNorecBusy(t *testing.T) {
	rows := map[api.ManagerKind]string{api.Polite: "br bbr bbbbr bbbbbbbbr br br", api.Karma: "br br br br br", api.Greedy: "br br br br br"}
	for mk, row := range rows {
		m := made(t, api.Norec, "0", 1, mk, adding, adding)
		runs(t, m, 1, 1)
		runs(t, m, 0, 11)
		if !m.engine.Holds(0) {
			t.Fatal("thread 0 has not the lock")
		}
		runs(t, m, 1, 3) // asks, notes, and is to look again
		plays(t, m, 1, row)
		at(t, m, 1, 1, "")
		at(t, m, 0, 5, "")
		if m.Why(1) != api.NoReason || len(m.Decided()) != 1 {
			t.Error("it is killed")
		}
		runs(t, m, 0, 2)
		plays(t, m, 0, "h")
		runs(t, m, 1, 5) // a, none to look at, c, notes, reads
		at(t, m, 1, 2, "1")
	}
}

// TestBeginBusy: over Norec nobody begins as long as somebody has the lock; that changes nothing.
func TestBeginBusy(t *testing.T) {
	m := made(t, api.Norec, "0", 1, api.Polite, adding, adding)
	runs(t, m, 0, 11)
	runs(t, m, 1, 1)
	was := lookAt(m)
	for range 5 {
		runs(t, m, 1, 1)
		was.time++
		same(t, m, was)
	}
	tries(t, m, 1, 0, 0, 0, false)
	runs(t, m, 0, 2)
	runs(t, m, 1, 1)
	tries(t, m, 1, 0, 0, 2, false)
	if n, ok := m.Owner(1); n != 1 || !ok {
		t.Error("it has not begun")
	}
}

// TestBeginFull: MaxAttempts may begin; who would begin the next one is Broken. One whose block is begun again is ended by the manager, too.
func TestBeginFull(t *testing.T) {
	for _, k := range engines {
		for _, last := range []int{63, 64} {
			m := made(t, k, "0", 1, api.Greedy, "l:, atomic, end, jump l, halt", "atomic, get 0, zero r, jump e, r:, retry, e:, end, halt")
			runs(t, m, 0, 4*last)
			if len(m.Order()) != last || m.Commits(0) != last {
				t.Fatalf("%d began", len(m.Order()))
			}
			if last == 64 {
				plays(t, m, 1, "x")
				over(t, m, 1, api.Broken, api.ErrSpace)
				at(t, m, 1, 0, "")
				plays(t, m, 0, "x")
				over(t, m, 0, api.Broken, api.ErrSpace)
				at(t, m, 0, 0, "")
				continue
			}
			runs(t, m, 1, 1)
			tries(t, m, 1, 0, 0, 64, false)
			if m.engine.Kill(1) != api.OK {
				t.Fatal("it can't be killed")
			}
			m.workers[1].Restart()
			tries(t, m, 1, 0, 0, 64, false)
			plays(t, m, 1, "x")
			over(t, m, 1, api.Broken, api.ErrSpace)
		}
	}
}

// TestChanged: what it read was written meanwhile: it starts again, with what it had ahead of the block.
func TestChanged(t *testing.T) {
	for _, k := range engines {
		m := made(t, k, "0 0", 2, api.Karma, "push 7, out, push 3, set 1, push 9, atomic, get 0, pop, push 5, set 1, get 0, put 1, end, pop, halt", setting)
		runs(t, m, 0, 15)
		for range 14 {
			m.Step(1)
		}
		states(t, m, "rh")
		for range 20 {
			if m.Why(0) == api.NoReason {
				runs(t, m, 0, 1)
			}
		}
		if m.Why(0) != api.Changed {
			t.Fatalf("Why is %d", m.Why(0))
		}
		at(t, m, 0, 5, "9")
		if s := m.Thread(0); s.Locals != [4]api.Val{1: value.Of(3)} || !slices.Equal(s.Out, vals("7")) || m.Commits(0) != 0 {
			t.Errorf("it is at %+v", s)
		}
		if _, has := m.Attempt(0); has {
			t.Error("it has an attempt")
		}
		if m.judge.Stamp(0) != 1 || m.judge.Merit(0) < 1 {
			t.Error("the manager has forgotten it")
		}
		for range 40 {
			m.Step(0)
		}
		over(t, m, 0, api.Halted, api.OK)
		heap(t, m, "1 1")
		if n, _ := m.Owner(2); n != 0 || m.Commits(0) != 1 {
			t.Error("it has not begun again")
		}
	}
}

// TestFull: an attempt that is aborted since there is no room: Broken, and no starting again.
func TestFull(t *testing.T) {
	var reads, writes strings.Builder
	for tvar := range 9 {
		reads.WriteString("get " + string(rune('0'+tvar)) + ", pop, ")
	}
	for range 2 {
		for tvar := range 9 {
			writes.WriteString("push 2, put " + string(rune('0'+tvar)) + ", ")
		}
		if !strings.Contains(writes.String(), "orelse") {
			writes.WriteString("orelse, ")
		}
	}
	for _, k := range engines {
		m := made(t, k, "0 0 0 0 0 0 0 0 0", 4, api.Polite, "push 6, atomic, "+reads.String()+"end, halt", "atomic, "+writes.String()+"else, endor, end, halt")
		for range 80 {
			m.Step(0)
		}
		over(t, m, 0, api.Broken, api.ErrSpace)
		at(t, m, 0, 18, "6") // it stands where it was
		if m.Why(0) != api.Full || m.Commits(0) != 0 {
			t.Errorf("Why is %d", m.Why(0))
		}
		for range 80 {
			m.Step(1)
		}
		over(t, m, 1, api.Broken, api.ErrSpace)
		at(t, m, 1, 35, "") // behind 9 in the first frame and 7 in the other one
		if m.Why(1) != api.Full {
			t.Errorf("Why is %d", m.Why(1))
		}
		heap(t, m, "0 0 0 0 0 0 0 0 0")
		if m.Locked() || len(m.Waiting()) != 0 {
			t.Error("something is left")
		}
	}
}

// TestAskError: what the engine refuses (a variable that is not there) breaks a thread; its attempt ends, and it starts again.
func TestAskError(t *testing.T) {
	for _, k := range engines {
		for _, wrong := range []string{"push 2, getat 0", "push 11, getat 0", "push 1, getat 1", "push 3, push 1, putat 1, push 1"} {
			m := made(t, k, "0 0", 1, api.Karma, "push 9, atomic, pop, push 1, put 0, "+wrong+", end, halt")
			for range 30 {
				m.Step(0)
			}
			over(t, m, 0, api.Broken, api.ErrRange)
			at(t, m, 0, 1, "9")
			want := []api.EventKind{api.Began, api.Wrote, api.Aborted}
			if !slices.Equal(kinds(m), want) || m.Why(0) != api.Asked {
				t.Errorf("Events are %v, Why is %d", m.Events(), m.Why(0))
			}
			heap(t, m, "0 0")
		}
	}
}

// TestStuckInside: an index that can be none: Broken; its attempt ends, and it stays where it is stuck.
func TestStuckInside(t *testing.T) {
	for _, k := range engines {
		for _, index := range []string{"-1", "12", "x3fe0000000000000"} {
			m := made(t, k, "0", 1, api.Greedy, "push 9, atomic, push 1, put 0, push "+index+", getat 0, end, halt")
			runs(t, m, 0, 6)
			plays(t, m, 0, "x")
			over(t, m, 0, api.Broken, api.ErrRange)
			if s := m.Thread(0); s.Pc != 5 || len(s.Stack) != 2 || m.Why(0) != api.Asked || m.Commits(0) != 0 {
				t.Errorf("it is at %+v, Why is %d", s, m.Why(0))
			}
			heap(t, m, "0")
		}
	}
}

// TestStuckOutside: too much is put out: Broken, and there is no attempt that ends.
func TestStuckOutside(t *testing.T) {
	for _, k := range engines {
		m := made(t, k, "0", 1, api.Polite, "atomic, end, l:, push 2, out, jump l, halt")
		runs(t, m, 0, 3+3*api.MaxOut+1)
		plays(t, m, 0, "x")
		over(t, m, 0, api.Broken, api.ErrSpace)
		at(t, m, 0, 3, "2")
		if len(m.Thread(0).Out) != api.MaxOut || m.Commits(0) != 1 || len(m.Events()) != 3 || m.Why(0) != api.NoReason {
			t.Errorf("%+v, %v", m.Thread(0), m.Events())
		}
	}
}
