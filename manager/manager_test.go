package manager

import (
	"math"
	"reflect"
	"testing"

	"rowlock/api"
)

var everyKind = []api.ManagerKind{api.Polite, api.Karma, api.Greedy}

// noThreads are numbers that no thread has.
var noThreads = []int{math.MinInt, -1, api.MaxThreads, api.MaxThreads + 1, math.MaxInt}

func made(t *testing.T, k api.ManagerKind) *Manager {
	t.Helper()
	m := New(k)
	if m == nil {
		t.Fatalf("New(%d) is nil", k)
	}
	return m
}

// isOK holds an error against none.
func isOK(t *testing.T, errno api.Errno) {
	t.Helper()
	if errno != api.OK {
		t.Fatalf("the error is %d", errno)
	}
}

// begin begins threads anew.
func begin(t *testing.T, m *Manager, threads ...int) {
	t.Helper()
	for _, th := range threads {
		isOK(t, m.Began(th, false))
	}
}

// opens lets a thread do something, so many times.
func opens(t *testing.T, m *Manager, th, times int) {
	t.Helper()
	for range times {
		isOK(t, m.Opened(th))
	}
}

// waits holds what is chosen against Wait, so many ticks.
func waits(t *testing.T, m *Manager, th, other, ticks int) {
	t.Helper()
	if c, n, errno := m.Choose(th, other); c != api.Wait || n != ticks || errno != api.OK {
		t.Fatalf("Choose(%d, %d) is %d, %d, %d, not Wait, %d", th, other, c, n, errno, ticks)
	}
}

// kills holds what is chosen against KillOther, which changes nothing.
func kills(t *testing.T, m *Manager, th, other int) {
	t.Helper()
	stays(t, m, "KillOther", func() {
		if c, n, errno := m.Choose(th, other); c != api.KillOther || n != 0 || errno != api.OK {
			t.Fatalf("Choose(%d, %d) is %d, %d, %d, not KillOther", th, other, c, n, errno)
		}
	})
}

// refuses holds what is chosen against an error, which changes nothing.
func refuses(t *testing.T, m *Manager, th, other int, want api.Errno) {
	t.Helper()
	stays(t, m, "Choose that is refused", func() {
		if c, n, errno := m.Choose(th, other); c != api.NoChoice || n != 0 || errno != want {
			t.Errorf("Choose(%d, %d) is %d, %d, %d, not %d", th, other, c, n, errno, want)
		}
	})
}

// has holds what is told of a thread against what it should be.
func has(t *testing.T, m *Manager, th, tries, merit, stamp int, waiting bool) {
	t.Helper()
	if m.Tries(th) != tries || m.Merit(th) != merit || m.Stamp(th) != stamp || m.Waiting(th) != waiting {
		t.Errorf("thread %d has %d, %d, %d, %v, not %d, %d, %d, %v", th, m.Tries(th), m.Merit(th), m.Stamp(th), m.Waiting(th), tries, merit, stamp, waiting)
	}
}

// isOldest holds Oldest against a thread; -1: none.
func isOldest(t *testing.T, m *Manager, want int) {
	t.Helper()
	if th, ok := m.Oldest(); ok != (want >= 0) || th != max(want, 0) {
		t.Errorf("Oldest is %d, %v, not %d", th, ok, want)
	}
}

// stays tells whether work changes nothing of a manager.
func stays(t *testing.T, m *Manager, name string, work func()) {
	t.Helper()
	was := m.Fork()
	work()
	if !reflect.DeepEqual(was, m) {
		t.Errorf("%s changed something: %+v, not %+v", name, m, was)
	}
}

// waiting is a manager of Greedy whose threads 0, 1 and 2 run, of the stamps 1, 2 and 3, and of which 1 waits.
func waiting(t *testing.T) *Manager {
	t.Helper()
	m := made(t, api.Greedy)
	begin(t, m, 0, 1, 2)
	waits(t, m, 1, 0, 1)
	return m
}

func TestNew(t *testing.T) {
	for k := range 256 {
		kind := api.ManagerKind(k)
		m := New(kind)
		want := kind == api.Polite || kind == api.Karma || kind == api.Greedy
		if (m != nil) != want {
			t.Errorf("New(%d) is %v", k, m)
		}
		if !want {
			continue
		}
		if m.Kind() != kind {
			t.Errorf("Kind is %d, not %d", m.Kind(), kind)
		}
		for th := range api.MaxThreads {
			has(t, m, th, 0, 0, 0, false)
		}
		isOldest(t, m, -1)
	}
}

// TestErrors: of no such thread ErrRange, of one that does not run ErrState; nothing changes.
func TestErrors(t *testing.T) {
	for _, k := range everyKind {
		m := made(t, k)
		begin(t, m, 0, 3)
		opens(t, m, 0, 2)
		m.Choose(3, 0)
		calls := []func(th int) api.Errno{m.Opened, m.Passed, m.Ended,
			func(th int) api.Errno { return m.Began(th, false) }, func(th int) api.Errno { return m.Began(th, true) }}
		stays(t, m, "what is refused", func() {
			for i, call := range calls {
				for _, th := range noThreads {
					if errno := call(th); errno != api.ErrRange {
						t.Errorf("call %d of thread %d is %d", i, th, errno)
					}
				}
			}
			for i, call := range calls[:3] {
				if errno := call(1); errno != api.ErrState {
					t.Errorf("call %d of one that does not run is %d", i, errno)
				}
			}
			if m.Began(1, true) != api.ErrState || m.Began(0, false) != api.ErrState || m.Began(3, false) != api.ErrState {
				t.Error("Began, again of one that does not run, or not again of one that does")
			}
		})
	}
}

func TestBegan(t *testing.T) {
	for _, k := range everyKind {
		m := made(t, k)
		begin(t, m, 2)
		has(t, m, 2, 0, 0, 1, false)
		begin(t, m, 0)
		has(t, m, 0, 0, 0, 2, false)
		opens(t, m, 2, 3)
		opens(t, m, 0, 1)
		waits(t, m, 0, 2, 1)
		has(t, m, 0, 1, 1, 2, k == api.Greedy)
		isOK(t, m.Began(0, true))
		has(t, m, 0, 0, 1, 2, false)
		has(t, m, 2, 0, 3, 1, false)
		isOK(t, m.Began(0, true))
		begin(t, m, 3)
		has(t, m, 3, 0, 0, 3, false)
		has(t, m, 1, 0, 0, 0, false)
	}
}

// TestOpened: merit is one more each time, up to 1000, and nothing else changes.
func TestOpened(t *testing.T) {
	for _, k := range everyKind {
		m := made(t, k)
		begin(t, m, 1, 0)
		waits(t, m, 0, 1, 1)
		for n := range 1010 {
			isOK(t, m.Opened(0))
			has(t, m, 0, 1, min(n+1, 1000), 2, k == api.Greedy)
		}
		has(t, m, 1, 0, 0, 1, false)
	}
}

func TestPassed(t *testing.T) {
	for _, k := range everyKind {
		m := made(t, k)
		begin(t, m, 1, 0)
		opens(t, m, 1, 5)
		opens(t, m, 0, 2)
		waits(t, m, 0, 1, 1)
		has(t, m, 0, 1, 2, 2, k == api.Greedy)
		isOK(t, m.Passed(0))
		has(t, m, 0, 0, 2, 2, false)
		stays(t, m, "Passed of one that does not wait", func() { isOK(t, m.Passed(0)) })
		waits(t, m, 0, 1, 1)
		has(t, m, 0, 1, 2, 2, k == api.Greedy)
	}
}

// TestEnded: nothing of it is left but, till it begins, that it waited: that is not named; stamps go on.
func TestEnded(t *testing.T) {
	for _, k := range everyKind {
		m := made(t, k)
		begin(t, m, 1, 0)
		opens(t, m, 1, 5)
		opens(t, m, 0, 2)
		waits(t, m, 0, 1, 1)
		isOK(t, m.Ended(0))
		has(t, m, 0, 0, 0, 0, k == api.Greedy)
		has(t, m, 1, 0, 5, 1, false)
		if m.Ended(0) != api.ErrState || m.Opened(0) != api.ErrState || m.Passed(0) != api.ErrState || m.Began(0, true) != api.ErrState {
			t.Error("it runs still")
		}
		refuses(t, m, 0, 1, api.ErrState)
		refuses(t, m, 1, 0, api.ErrState)
		begin(t, m, 0)
		has(t, m, 0, 0, 0, 3, false)
		isOK(t, m.Ended(0))
		has(t, m, 0, 0, 0, 0, false)
		isOK(t, m.Ended(1))
		begin(t, m, 1)
		has(t, m, 1, 0, 0, 4, false)
	}
}

// TestChooseErrors: ErrRange of either is told ahead of ErrState.
func TestChooseErrors(t *testing.T) {
	for _, k := range everyKind {
		m := made(t, k)
		begin(t, m, 0, 3)
		for _, none := range noThreads {
			for th := range api.MaxThreads {
				refuses(t, m, none, th, api.ErrRange)
				refuses(t, m, th, none, api.ErrRange)
			}
			refuses(t, m, none, none, api.ErrRange)
		}
		for th := range api.MaxThreads {
			refuses(t, m, th, th, api.ErrState)
		}
		refuses(t, m, 0, 1, api.ErrState)
		refuses(t, m, 1, 0, api.ErrState)
		refuses(t, m, 1, 2, api.ErrState)
	}
}

// TestPolite: it waits 1, 2, 4, 8, whatever both have done, then it kills; who is in the way is of no matter.
func TestPolite(t *testing.T) {
	m := made(t, api.Polite)
	begin(t, m, 0, 1, 2)
	opens(t, m, 0, 7)
	for n, th := range []int{1, 2, 1, 2} {
		has(t, m, 0, n, 7, 1, false)
		waits(t, m, 0, th, 1<<n)
	}
	has(t, m, 0, 4, 7, 1, false)
	kills(t, m, 0, 1)
	kills(t, m, 0, 2)
	waits(t, m, 1, 0, 1)
	has(t, m, 1, 1, 0, 2, false)
	isOK(t, m.Passed(0))
	waits(t, m, 0, 1, 1)
	waits(t, m, 0, 1, 2)
	isOK(t, m.Began(0, true))
	waits(t, m, 0, 1, 1)
}

// TestKarma: it kills, if its merit and its tries are above the other one's merit; the other one's tries count for nothing.
func TestKarma(t *testing.T) {
	for merit := range 6 {
		for other := range 6 {
			m := made(t, api.Karma)
			begin(t, m, 0, 3)
			opens(t, m, 3, merit)
			opens(t, m, 0, other)
			tries := 0
			for ; merit+tries <= other; tries++ {
				waits(t, m, 3, 0, 1)
				has(t, m, 3, tries+1, merit, 2, false)
			}
			kills(t, m, 3, 0)
			has(t, m, 3, tries, merit, 2, false)
			has(t, m, 0, 0, other, 1, false)
			if other <= merit {
				waits(t, m, 0, 3, 1)
				kills(t, m, 3, 0) // though 0 has a try more, or as many
			}
		}
	}
}

// TestKarmaLimit: of two with all merit that there can be one waits once, then it kills.
func TestKarmaLimit(t *testing.T) {
	m := made(t, api.Karma)
	begin(t, m, 0, 1)
	opens(t, m, 0, 1100)
	opens(t, m, 1, 1000)
	waits(t, m, 0, 1, 1)
	kills(t, m, 0, 1)
	waits(t, m, 1, 0, 1)
	kills(t, m, 1, 0)
}

// TestGreedy: who began later waits, whatever it has done, and however often it tried; who began earlier kills.
func TestGreedy(t *testing.T) {
	m := made(t, api.Greedy)
	begin(t, m, 3, 0, 1)
	opens(t, m, 1, 9)
	kills(t, m, 3, 0)
	kills(t, m, 3, 1)
	kills(t, m, 0, 1)
	for n := range 20 {
		waits(t, m, 1, 3, 1)
		has(t, m, 1, n+1, 9, 3, true)
	}
	waits(t, m, 0, 3, 1)
	has(t, m, 0, 1, 0, 2, true)
	isOK(t, m.Ended(3))
	begin(t, m, 3) // it is the youngest now
	kills(t, m, 3, 0)
	isOK(t, m.Passed(0))
	waits(t, m, 3, 0, 1)
}

// TestGreedyWaiting: one that waits is not waited for, whoever began earlier, and whether the asking one waits, too.
func TestGreedyWaiting(t *testing.T) {
	m := waiting(t)
	kills(t, m, 2, 1)
	kills(t, m, 0, 1)
	waits(t, m, 2, 0, 1)
	kills(t, m, 2, 1)
	kills(t, m, 1, 2)
	waits(t, m, 1, 0, 1)
	for _, stop := range []func(m *Manager) api.Errno{
		func(m *Manager) api.Errno { return m.Passed(1) },
		func(m *Manager) api.Errno { return m.Began(1, true) },
	} {
		f := m.Fork()
		isOK(t, stop(f))
		has(t, f, 1, 0, 0, 2, false)
		waits(t, f, 2, 1, 1)
	}
}

// TestAgainKeepsAge: one that begins again is as old as it was.
func TestAgainKeepsAge(t *testing.T) {
	m := waiting(t)
	isOK(t, m.Began(0, true))
	has(t, m, 0, 0, 0, 1, false)
	isOldest(t, m, 0)
	kills(t, m, 0, 2)
	waits(t, m, 2, 0, 1)
}

func TestOldest(t *testing.T) {
	for _, k := range everyKind {
		m := made(t, k)
		isOldest(t, m, -1)
		begin(t, m, 3)
		isOldest(t, m, 3)
		begin(t, m, 1, 0, 2)
		isOldest(t, m, 3)
		isOK(t, m.Ended(3))
		isOldest(t, m, 1)
		begin(t, m, 3)
		isOldest(t, m, 1)
		isOK(t, m.Ended(0))
		isOldest(t, m, 1)
		isOK(t, m.Ended(1))
		isOldest(t, m, 2)
		isOK(t, m.Ended(2))
		isOldest(t, m, 3)
		isOK(t, m.Ended(3))
		isOldest(t, m, -1)
	}
}

// TestNoThread: of threads that there are not nothing is told.
func TestNoThread(t *testing.T) {
	m := waiting(t)
	opens(t, m, 0, 2)
	for _, th := range noThreads {
		has(t, m, th, 0, 0, 0, false)
	}
	has(t, m, 3, 0, 0, 0, false)
}

func TestNil(t *testing.T) {
	var m *Manager
	for _, th := range append(noThreads, 0, 1) {
		if m.Began(th, false) != api.ErrNil || m.Began(th, true) != api.ErrNil || m.Opened(th) != api.ErrNil || m.Passed(th) != api.ErrNil || m.Ended(th) != api.ErrNil {
			t.Errorf("of thread %d it is not ErrNil", th)
		}
		for other := range 2 {
			if c, n, errno := m.Choose(th, other); c != api.NoChoice || n != 0 || errno != api.ErrNil {
				t.Errorf("Choose is %d, %d, %d", c, n, errno)
			}
		}
		has(t, m, th, 0, 0, 0, false)
	}
	isOldest(t, m, -1)
	if m.Kind() != api.NoManager || m.Fork() != nil {
		t.Error("nil tells something")
	}
}

// TestFork: what becomes of a manager changes nothing of its Fork, and the other way round (P4).
func TestFork(t *testing.T) {
	for _, k := range everyKind {
		m := made(t, k)
		begin(t, m, 0, 1, 2)
		opens(t, m, 0, 3)
		waits(t, m, 1, 0, 1)
		f := m.Fork()
		if f == m || !reflect.DeepEqual(f, m) || f.Kind() != k {
			t.Fatalf("Fork is %+v, not %+v", f, m)
		}
		play := func(m *Manager) {
			m.Choose(1, 0)
			m.Choose(2, 0)
			m.Opened(2)
			m.Ended(0)
			m.Began(3, false)
			m.Passed(1)
		}
		stays(t, m, "what became of the Fork", func() { play(f) })
		has(t, m, 1, 1, 0, 2, k == api.Greedy)
		has(t, f, 3, 0, 0, 4, false)
		g := m.Fork()
		stays(t, g, "what became of the manager", func() { play(m) })
		if !reflect.DeepEqual(m, f) {
			t.Errorf("the Fork goes on otherwise: %+v, not %+v", f, m)
		}
	}
}

// TestApart: two managers share nothing (P6).
func TestApart(t *testing.T) {
	m := waiting(t)
	other := made(t, api.Greedy)
	has(t, other, 1, 0, 0, 0, false)
	begin(t, other, 1)
	has(t, other, 1, 0, 0, 1, false)
	has(t, m, 1, 1, 0, 2, true)
}

// TestExample: the chapter's.
func TestExample(t *testing.T) {
	m := made(t, api.Polite)
	begin(t, m, 0, 1)
	for _, ticks := range []int{1, 2, 4, 8} {
		waits(t, m, 0, 1, ticks)
	}
	kills(t, m, 0, 1)
}

// numbers are whole numbers below n, one behind the other, the same ones at each run.
func numbers(x uint64) func(n int) int {
	return func(n int) int {
		x = x*6364136223846793005 + 1442695040888963407
		return int((x >> 33) % uint64(n))
	}
}

// drawnCall is one of any thread, but Choose.
func drawnCall(m *Manager, below func(int) int) {
	th := below(api.MaxThreads)
	switch below(8) {
	case 0, 1, 2:
		m.Began(th, false)
	case 3:
		m.Began(th, true)
	case 4, 5:
		m.Opened(th)
	case 6:
		m.Passed(th)
	case 7:
		m.Ended(th)
	}
}

// TestTheOldest: of Greedy the oldest is never told to wait; others are told to kill it only as long as it waits since before it was the oldest (P12.4).
func TestTheOldest(t *testing.T) {
	m := made(t, api.Greedy)
	below := numbers(5)
	spared, killed := 0, 0
	var young [api.MaxThreads]bool // told to wait while it was not the oldest, and waiting since
	for range 20000 {
		drawnCall(m, below)
		for th := range young {
			young[th] = young[th] && m.Waiting(th)
		}
		oldest, _ := m.Oldest()
		th, other := below(api.MaxThreads), below(api.MaxThreads)
		c, _, errno := m.Choose(th, other)
		if errno != api.OK {
			continue
		}
		if th == oldest && c != api.KillOther {
			t.Fatalf("the oldest, %d, is told to wait", th)
		}
		if c == api.Wait {
			young[th] = true
		}
		if other != oldest {
			continue
		}
		if (c == api.KillOther) != young[oldest] {
			t.Fatalf("%d is told %d of the oldest, %d, that waits: %v", th, c, oldest, young[oldest])
		}
		if c == api.KillOther {
			killed++
		} else {
			spared++
		}
	}
	if spared < 100 || killed < 100 {
		t.Errorf("the oldest was spared %d times, and killed %d times", spared, killed)
	}
}

// TestNobodyWaitsForEver: for one that does nothing, of Polite and Karma, whatever was ahead (P12.5).
func TestNobodyWaitsForEver(t *testing.T) {
	for k, most := range map[api.ManagerKind]int{api.Polite: 4, api.Karma: 1001} {
		below := numbers(9)
		for range 40 {
			m := made(t, k)
			begin(t, m, 0, 1)
			opens(t, m, below(2), below(1100))
			for range below(30) {
				m.Choose(below(2), below(2))
				drawnCall(m, below)
			}
			for th := range 2 {
				if m.Began(th, false) == api.OK {
					opens(t, m, th, below(1100))
				}
			}
			waited := 0
			for c := api.Wait; ; waited++ {
				if c, _, _ = m.Choose(0, 1); c == api.KillOther {
					break
				}
				if c != api.Wait || waited >= most {
					t.Fatalf("of kind %d it waited %d times, and is told %d", k, waited, c)
				}
			}
		}
	}
}
