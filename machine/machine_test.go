package machine

import (
	"math"
	"slices"
	"testing"

	"rowlock/api"
)

// TestNew: P19.1: engines, heaps, stripes, managers, numbers of programs, programs.
func TestNew(t *testing.T) {
	halt := code(t, "halt")
	long := make([]api.Val, api.MaxTvars+1)
	programs := [][]api.Ins{halt, halt, halt, halt, halt}
	may := func(name string, want bool, m *Machine) {
		t.Helper()
		if (m != nil) != want {
			t.Errorf("%s: it can be: %v", name, m != nil)
		}
	}
	for k := range 256 {
		kind := api.EngineKind(k)
		may("engine", slices.Contains(engines, kind), New(kind, long[:1], 1, api.Polite, halt))
		may("manager", slices.Contains(managers, api.ManagerKind(k)), New(api.Tl2, long[:1], 1, api.ManagerKind(k), halt))
	}
	for _, k := range engines {
		for n := range len(long) + 1 {
			want := 1 <= n && n <= api.MaxTvars
			may("heap", want, New(k, long[:min(n, len(long))], 1, api.Karma, halt))
		}
		may("no heap", false, New(k, nil, 1, api.Karma, halt))
		may("values", false, New(k, []api.Val{api.One, notRight}, 1, api.Karma, halt))
		may("values", true, New(k, []api.Val{api.NaN, api.NegZero, api.Infinity}, 1, api.Karma, halt))
		for n := range len(programs) + 1 {
			may("programs", 1 <= n && n <= api.MaxThreads, New(k, long[:1], 1, api.Greedy, programs[:n]...))
		}
		for n := -2; n < 12; n++ {
			may("stripes", k == api.Norec || 1 <= n && n <= api.MaxStripes, New(k, long[:1], n, api.Greedy, halt))
		}
		for _, n := range []int{math.MinInt, math.MaxInt} {
			may("stripes", k == api.Norec, New(k, long[:1], n, api.Greedy, halt))
		}
	}
}

// TestNewPrograms: P19.1: each program is checked, over as many variables as there are.
func TestNewPrograms(t *testing.T) {
	halt, long := code(t, "halt"), make([]api.Ins, api.MaxCode+1)
	long[api.MaxCode] = halt[0]
	for _, k := range engines {
		for _, l := range [][]api.Ins{nil, {}, long, code(t, "nop"), code(t, "get 0, halt"), code(t, "pop, halt"), {{Op: api.LastOp + 1}}, {{Op: api.Atomic, Arg: 9}, {Op: api.End}, {Op: api.Halt}}} {
			for _, programs := range [][][]api.Ins{{l}, {l, halt}, {halt, halt, halt, l}} {
				if New(k, vals("0"), 1, api.Polite, programs...) != nil {
					t.Errorf("New of %v can be", programs)
				}
			}
		}
		if New(k, vals("0"), 1, api.Polite, halt, long[1:]) == nil {
			t.Error("New of MaxCode instructions can't be")
		}
		third := code(t, "atomic, get 2, pop, end, halt")
		if New(k, vals("0 0"), 1, api.Polite, third) != nil || New(k, vals("0 0 0"), 1, api.Polite, third) == nil {
			t.Error("variables")
		}
	}
}

// TestFresh: what a machine tells at first.
func TestFresh(t *testing.T) {
	for _, k := range engines {
		for _, mk := range managers {
			m := made(t, k, "3 -4", 2, mk, adding, "halt", "halt")
			same(t, m, look{heap: vals("3 -4"), n: 3})
		}
	}
}

// TestNil: what nil answers.
func TestNil(t *testing.T) {
	var m *Machine
	same(t, m, look{})
	for _, th := range []int{-1, 0, 3, 4, math.MinInt} {
		if s, errno := m.Step(th); s != 0 || errno != api.ErrNil {
			t.Errorf("Step is %d, %d", s, errno)
		}
	}
	if m.Run(0, 1, 2) != 0 || m.Run() != 0 || m.Fork() != nil {
		t.Error("nil runs, or has a Fork")
	}
}

// TestNoThread: P19.2: of no such thread ErrRange, and nothing changes, the time neither.
func TestNoThread(t *testing.T) {
	for _, k := range engines {
		m := made(t, k, "0", 1, api.Polite, adding, adding)
		runs(t, m, 0, 3)
		was := lookAt(m)
		for _, th := range []int{-1, 2, 3, 4, math.MinInt, math.MaxInt} {
			if s, errno := m.Step(th); s != 0 || errno != api.ErrRange {
				t.Errorf("Step(%d) is %d, %d", th, s, errno)
			}
			if s := m.Thread(th); m.StateOf(th) != 0 || s.Pc != 0 || len(s.Stack)+len(s.Out) != 0 || m.Commits(th) != 0 || m.Errno(th) != 0 {
				t.Errorf("of thread %d something is told", th)
			}
			if n, ok := m.Attempt(th); n != 0 || ok {
				t.Errorf("Attempt(%d) is %d, %v", th, n, ok)
			}
		}
		same(t, m, was)
	}
}

// TestRun: P19.3: none, some, those that are not there among them, and 2000 at most.
func TestRun(t *testing.T) {
	m := made(t, api.Tl2, "0", 1, api.Polite, "l:, nop, jump l, halt", "halt")
	was := lookAt(m)
	if m.Run() != 0 || m.Run(2) != 0 || m.Run(-1, 7, math.MaxInt) != 0 {
		t.Error("Run of none")
	}
	same(t, m, was)
	if n := m.Run(0, 2, 1, -1, 0, 0, 1); n != 5 || m.Time() != 5 {
		t.Errorf("Run is %d", n)
	}
	at(t, m, 0, 1, "")
	states(t, m, "rh")
	threads := make([]int, 2500)
	if n := m.Run(threads[:1999]...); n != 1999 || m.Time() != 2004 {
		t.Errorf("Run is %d, the time %d", n, m.Time())
	}
	if n := m.Run(threads[:2000]...); n != 2000 || m.Time() != 4004 {
		t.Errorf("Run is %d, the time %d", n, m.Time())
	}
	if n := m.Run(threads...); n != 2000 || m.Time() != 6004 {
		t.Errorf("Run is %d, the time %d", n, m.Time())
	}
	for i := range 100 {
		threads[i] = -i - 1
	}
	if n := m.Run(threads...); n != 1900 || m.Time() != 7904 || threads[99] != -100 || threads[100] != 0 {
		t.Errorf("Run is %d, the time %d", n, m.Time())
	}
}

// TestRunIsSteps: Run of threads is Step of each.
func TestRunIsSteps(t *testing.T) {
	for _, k := range engines {
		m := made(t, k, "0", 1, api.Karma, adding, adding, adding)
		other := m.Fork()
		draw := numbers(6)
		var threads []int
		for range 300 {
			threads = append(threads, draw(3))
		}
		for _, th := range threads {
			other.Step(th)
		}
		m.Run(threads...)
		same(t, m, lookAt(other))
		heap(t, m, "3")
	}
}

// TestTwoAdd: the chapter's example: two threads both add 1; in all orders that are tried it is 2 when both have halted.
func TestTwoAdd(t *testing.T) {
	for _, k := range engines {
		for _, mk := range managers {
			for first := range 24 {
				for second := range 24 {
					m := made(t, k, "0", 1, mk, adding, adding)
					for i := range 300 {
						th := i % 2
						if i < first || i >= first+second && i < first+second+10 {
							th = 0
						} else if i < first+second {
							th = 1
						}
						m.Step(th)
					}
					states(t, m, "hh")
					heap(t, m, "2")
					if m.Commits(0) != 1 || m.Commits(1) != 1 || m.Locked() || len(m.Decided()) != 0 {
						t.Fatalf("%d, %d commits", m.Commits(0), m.Commits(1))
					}
				}
			}
		}
	}
}

// TestTold: P19.3: what is told of attempts that are there, that have ended, and that are not.
func TestTold(t *testing.T) {
	for _, k := range engines {
		m := made(t, k, "0", 1, api.Polite, "halt", adding, adding)
		runs(t, m, 2, 1)
		runs(t, m, 1, 1)
		if n, ok := m.Attempt(2); n != 0 || !ok {
			t.Errorf("Attempt(2) is %d, %v", n, ok)
		}
		if n, ok := m.Attempt(1); n != 1 || !ok {
			t.Errorf("Attempt(1) is %d, %v", n, ok)
		}
		for range 60 {
			m.Step(1)
		}
		for range 60 {
			m.Step(2) // it read nothing yet; Tl2 finds the variable written since it began, and begins again
		}
		states(t, m, "rhh")
		owners, order := []int{2, 1}, []int{0, 1}
		if k == api.Tl2 {
			owners, order = []int{2, 1, 2}, []int{0, 1, 2}
		} else {
			order = []int{1, 0}
		}
		for n := -2; n < 70; n++ {
			th, ok := m.Owner(n)
			if there := n >= 0 && n < len(owners); ok != there || there && th != owners[n] || !there && th != 0 {
				t.Errorf("Owner(%d) is %d, %v", n, th, ok)
			}
			if want := map[bool]api.Reason{true: api.Changed}[k == api.Tl2 && n == 0]; m.Why(n) != want {
				t.Errorf("Why(%d) is %d", n, m.Why(n))
			}
		}
		if !slices.Equal(m.Order(), order) || m.Threads() != 3 || m.Time() != 122 {
			t.Errorf("%v, %d, %d", m.Order(), m.Threads(), m.Time())
		}
		for th := range 3 {
			if n, ok := m.Attempt(th); n != 0 || ok {
				t.Errorf("Attempt(%d) is %d, %v", th, n, ok)
			}
		}
	}
}

// TestStays: P3: what is handed in stays, and may be changed then; what is answered is the caller's.
func TestStays(t *testing.T) {
	for _, k := range engines {
		l := append(code(t, "push 7, out, push 8, "+adding), api.Ins{Op: 77})
		room := append(vals("5 6"), 9)
		programs := [][]api.Ins{l[:10], l[:10], nil}
		m := New(k, room[:2], 1, api.Karma, programs[:2]...)
		plain := made(t, k, "5 6", 1, api.Karma, "push 7, out, push 8, "+adding, "push 7, out, push 8, "+adding)
		if room[2] != 9 || l[10].Op != 77 || programs[2] != nil {
			t.Fatal("what is handed in has changed")
		}
		clear(l)
		clear(room)
		clear(programs)
		for i := range 60 {
			th := i / 3 % 2
			m.Step(th)
			plain.Step(th)
			spoil(lookAt(m))
			for th := range 2 {
				s := m.Thread(th)
				spoilList(s.Stack, 3)
				spoilList(s.Out, 3)
			}
			same(t, m, lookAt(plain))
		}
	}
}

// spoilList changes all of a list, and its spare room.
func spoilList[T any](l []T, v T) {
	l = l[:cap(l)]
	for i := range l {
		l[i] = v
	}
}

// spoil changes all lists that were answered.
func spoil(l look) {
	spoilList(l.heap, 3)
	spoilList(l.events, api.Event{Kind: 77})
	spoilList(l.order, 77)
	spoilList(l.decided, 77)
	spoilList(l.waiting, 77)
}

// TestFork: P4: of a machine and its Fork, at each step, what becomes of the one changes nothing of the other one.
func TestFork(t *testing.T) {
	for _, k := range engines {
		for _, mk := range managers {
			m := made(t, k, "0 0", 1, mk, adding, "push 3, out, "+retrying, setting, "push 2, atomic, orelse, push 1, put 1, get 0, pop, retry, else, push 5, put 0, endor, end, halt")
			draw := numbers(4)
			for range 160 {
				m.Step(draw(4))
				was := lookAt(m)
				fork, again := m.Fork(), m.Fork()
				same(t, fork, was)
				for range 120 {
					fork.Step(draw(4))
				}
				same(t, m, was)
				// What comes of the original is what comes of a Fork, though another one went on.
				other, picks := m.Fork(), []int{}
				for range 40 {
					picks = append(picks, draw(4))
				}
				other.Run(picks...)
				same(t, again, was)
				again.Run(picks...)
				same(t, again, lookAt(other))
				same(t, m, was)
			}
			if m.Commits(0)+m.Commits(1)+m.Commits(2)+m.Commits(3) < 3 {
				t.Error("it came to nothing")
			}
		}
	}
}

// TestForkOwners: attempts of the same number, of a machine and its Fork, are unlike threads'.
func TestForkOwners(t *testing.T) {
	for _, k := range engines {
		m := made(t, k, "0", 1, api.Polite, "l:, atomic, end, jump l, halt", adding, adding)
		for n := range 20 {
			fork := m.Fork()
			runs(t, fork, 1, 1)
			other := m.Fork()
			runs(t, other, 2, 1)
			runs(t, m, 0, 1)
			for th, one := range []*Machine{m, fork, other} {
				if owner, ok := one.Owner(n); owner != th || !ok {
					t.Fatalf("attempt %d of %d is %d's", n, th, owner)
				}
			}
			runs(t, m, 0, 3)
		}
	}
}
