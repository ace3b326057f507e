package machine

import (
	"reflect"
	"slices"
	"strconv"
	"strings"
	"testing"

	"rowlock/api"
	"rowlock/asm"
	"rowlock/value"
)

// Bits that are not right.
const notRight api.Val = 0x7ff8000000000001

// engines and managers are those that there are.
var (
	engines  = []api.EngineKind{api.Tl2, api.Norec}
	managers = []api.ManagerKind{api.Polite, api.Karma, api.Greedy}
)

// Programs that are used often. Over Tl2, if nobody is in the way, adding is: begin, ask (2), three steps of a read (5), push, add (7), ask, a write (9), ask (10), try (11), lock (12), the clock (13), a read (14), decided (15), a write (16), unlock (17), halt (18). Over Norec: begin, ask (2), two steps of a read (4), push, add (6), ask, a write (8), ask (9), try (10), lock (11), a write (12), unlock (13), halt (14).
const (
	adding   = "atomic, get 0, push 1, add, put 0, end, halt"
	retrying = "atomic, get 0, zero r, jump e, r:, retry, e:, end, halt" // till variable 0 is not 0; places: 4 is the retry, 5 the end, 6 the halt
	setting  = "atomic, push 1, put 0, end, halt"
)

// numbers draws numbers below n, the same ones for the same seed.
func numbers(seed uint64) func(n int) int {
	return func(n int) int {
		seed = seed*6364136223846793005 + 1442695040888963407
		return int(seed >> 33 % uint64(n))
	}
}

// code is the program of a text, with commas instead of line feeds.
func code(t *testing.T, text string) []api.Ins {
	t.Helper()
	l, line, errno := asm.Assemble(strings.ReplaceAll(text, ",", "\n"))
	if errno != api.OK {
		t.Fatalf("%s: line %d: %d", text, line, errno)
	}
	return l
}

// vals are the numbers of a text.
func vals(text string) []api.Val {
	var l []api.Val
	for word := range strings.FieldsSeq(text) {
		f, err := strconv.ParseFloat(word, 64)
		if err != nil {
			panic("no number: " + word)
		}
		l = append(l, value.Of(f))
	}
	return l
}

// made is a machine that can be.
func made(t *testing.T, k api.EngineKind, heap string, stripes int, mk api.ManagerKind, programs ...string) *Machine {
	t.Helper()
	var l [][]api.Ins
	for _, p := range programs {
		l = append(l, code(t, p))
	}
	m := New(k, vals(heap), stripes, mk, l...)
	if m == nil {
		t.Fatal("New is nil")
	}
	return m
}

// letters are the states, one a letter: Running, Backing, Asleep, Halted, Broken.
const letters = "rbshx"

// plays steps a thread, and holds what it does behind each step against a row of letters; what StateOf tells, and the time, too.
func plays(t *testing.T, m *Machine, th int, want string) {
	t.Helper()
	for i, letter := range strings.ReplaceAll(want, " ", "") {
		time := m.Time()
		got, errno := m.Step(th)
		if errno != api.OK || got != m.StateOf(th) || m.Time() != time+1 {
			t.Fatalf("step %d: %d, %d, StateOf %d, time %d behind %d", i+1, got, errno, m.StateOf(th), m.Time(), time)
		}
		if rune(letters[got]) != letter {
			t.Fatalf("step %d of thread %d: it is %c, not %c", i+1, th, letters[got], letter)
		}
	}
}

// runs steps a thread that is Running behind each step.
func runs(t *testing.T, m *Machine, th, steps int) {
	t.Helper()
	plays(t, m, th, strings.Repeat("r", steps))
}

// states holds what all threads do against a row of letters.
func states(t *testing.T, m *Machine, want string) {
	t.Helper()
	got := ""
	for th := range m.Threads() {
		got += letters[m.StateOf(th) : m.StateOf(th)+1]
	}
	if got != want {
		t.Fatalf("the threads are %s, not %s", got, want)
	}
}

// at holds a thread's State against a place and a stack.
func at(t *testing.T, m *Machine, th, pc int, stack string) {
	t.Helper()
	if s := m.Thread(th); s.Pc != pc || !slices.Equal(s.Stack, vals(stack)) {
		t.Fatalf("thread %d is at %+v", th, s)
	}
}

// heap holds the heap against numbers.
func heap(t *testing.T, m *Machine, want string) {
	t.Helper()
	if got := m.Heap(); !slices.Equal(got, vals(want)) {
		t.Fatalf("the heap is %x, not %s", got, want)
	}
}

// waiting holds those that wait against what they should be.
func waiting(t *testing.T, m *Machine, want ...int) {
	t.Helper()
	if got := m.Waiting(); !slices.Equal(got, want) {
		t.Fatalf("Waiting are %v, not %v", got, want)
	}
}

// tries holds how often a thread waited, how much it did, its stamp, and whether it waits, against what the manager should know.
func tries(t *testing.T, m *Machine, th, tries, merit, stamp int, waits bool) {
	t.Helper()
	j := m.judge
	if j.Tries(th) != tries || j.Merit(th) != merit || j.Stamp(th) != stamp || j.Waiting(th) != waits {
		t.Fatalf("thread %d has tries %d, merit %d, stamp %d, waits %v", th, j.Tries(th), j.Merit(th), j.Stamp(th), j.Waiting(th))
	}
}

// over holds a thread that goes on no more against what holds of all such: it has no attempt, the manager has ended it, and its steps change nothing but the time.
func over(t *testing.T, m *Machine, th int, want api.ThreadState, errno api.Errno) {
	t.Helper()
	if m.StateOf(th) != want || m.Errno(th) != errno {
		t.Fatalf("thread %d is %d, with %d", th, m.StateOf(th), m.Errno(th))
	}
	if _, has := m.Attempt(th); has || m.judge.Stamp(th) != 0 || m.engine.Holds(th) || slices.Contains(m.Waiting(), th) {
		t.Fatalf("thread %d left something behind", th)
	}
	was := lookAt(m)
	for range 3 {
		was.time++
		if got, errno := m.Step(th); got != want || errno != api.OK {
			t.Fatalf("Step is %d, %d then", got, errno)
		}
		same(t, m, was)
	}
}

// one is what is told of a thread.
type one struct {
	doing   api.ThreadState
	state   api.State
	commits int
	errno   api.Errno
	attempt int
	has     bool
	tries   int
	merit   int
	stamp   int
	waits   bool
	holds   bool
	asked   api.Ask
}

// look is all that a machine tells, and what its manager does.
type look struct {
	threads        [api.MaxThreads + 2]one // from -1 on
	heap           []api.Val
	events         []api.Event
	order, decided []int
	owners         [api.MaxAttempts + 2][2]int // from -1 on; with whether there is one
	why            [api.MaxAttempts + 2]api.Reason
	waiting        []int
	time, n        int
	locked         bool
}

// lookAt is what a machine tells.
func lookAt(m *Machine) look {
	l := look{heap: m.Heap(), events: m.Events(), order: m.Order(), decided: m.Decided(), waiting: m.Waiting(), time: m.Time(), n: m.Threads(), locked: m.Locked()}
	for i := range l.threads {
		th := i - 1
		o := one{doing: m.StateOf(th), state: m.Thread(th), commits: m.Commits(th), errno: m.Errno(th)}
		o.attempt, o.has = m.Attempt(th)
		if m != nil {
			j := m.judge
			o.tries, o.merit, o.stamp, o.waits, o.holds = j.Tries(th), j.Merit(th), j.Stamp(th), j.Waiting(th), m.engine.Holds(th)
			o.asked, _ = m.engine.Asked(th)
		}
		l.threads[i] = o
	}
	for i := range l.owners {
		owner, ok := m.Owner(i - 1)
		l.owners[i][0] = owner
		if ok {
			l.owners[i][1] = 1
		}
		l.why[i] = m.Why(i - 1)
	}
	return l
}

// plain is a look in which lists without any are all alike.
func (l look) plain() look {
	if len(l.heap)+len(l.events)+len(l.order)+len(l.decided)+len(l.waiting) == 0 {
		l.heap, l.events, l.order, l.decided, l.waiting = nil, nil, nil, nil, nil
	}
	l.order, l.decided, l.waiting = append([]int{}, l.order...), append([]int{}, l.decided...), append([]int{}, l.waiting...)
	l.events = append([]api.Event{}, l.events...)
	for i := range l.threads {
		s := &l.threads[i].state
		s.Stack, s.Out = append([]api.Val{}, s.Stack...), append([]api.Val{}, s.Out...)
	}
	return l
}

// same holds a machine against what it told.
func same(t *testing.T, m *Machine, want look) {
	t.Helper()
	if got := lookAt(m); !reflect.DeepEqual(got.plain(), want.plain()) {
		t.Fatalf("it tells %+v, not %+v", got, want)
	}
}
