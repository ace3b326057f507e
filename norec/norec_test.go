package norec

import (
	"math"
	"reflect"
	"slices"
	"testing"
	"unsafe"

	"rowlock/api"
)

// Values that tests read and write: two and three, and bits of what is no number, which are not right.
const (
	two      api.Val = 0x4000000000000000
	three    api.Val = 0x4008000000000000
	notRight api.Val = 0x7ff8000000000001
)

// Replies that need no more words.
var (
	goesOn = api.Reply{}
	isDone = api.Reply{Done: true}
	isOver = api.Reply{Done: true, Ended: true}
)

func hasRead(v api.Val) api.Reply { return api.Reply{Done: true, Val: v} }

func endsBy(why api.Reason) api.Reply { return api.Reply{Done: true, Ended: true, Reason: why} }

func isBusy(owner int) api.Reply { return api.Reply{Busy: true, Owner: owner} }

// Asks.
var (
	push     = api.Ask{Kind: api.PushIt}
	drop     = api.Ask{Kind: api.DropIt}
	merge    = api.Ask{Kind: api.MergeIt}
	commit   = api.Ask{Kind: api.CommitIt}
	abort    = api.Ask{Kind: api.AbortIt}
	everyAsk = []api.Ask{read(0), write(0, two), push, drop, merge, commit, abort}
)

func read(tvar int) api.Ask { return api.Ask{Kind: api.ReadIt, Tvar: tvar} }

func write(tvar int, v api.Val) api.Ask { return api.Ask{Kind: api.WriteIt, Tvar: tvar, Val: v} }

func pair(tvar int, v api.Val) api.Pair { return api.Pair{Tvar: tvar, Val: v} }

// made is an engine over n values, all 0.
func made(t *testing.T, n int) *Engine {
	t.Helper()
	e := New(make([]api.Val, n))
	if e == nil {
		t.Fatalf("New of %d values is nil", n)
	}
	return e
}

// begin begins attempts of threads.
func begin(t *testing.T, e *Engine, threads ...int) {
	t.Helper()
	for _, th := range threads {
		if _, errno := e.Begin(th); errno != api.OK {
			t.Fatalf("Begin(%d): %d", th, errno)
		}
	}
}

func ask(t *testing.T, e *Engine, th int, a api.Ask) {
	t.Helper()
	if errno := e.Ask(th, a); errno != api.OK {
		t.Fatalf("Ask(%d, %v): %d", th, a, errno)
	}
}

// steps holds the steps of a thread against what they should answer.
func steps(t *testing.T, e *Engine, th int, want ...api.Reply) {
	t.Helper()
	for i, w := range want {
		if got := e.Step(th); got != w {
			t.Fatalf("step %d of thread %d: %+v, not %+v", i, th, got, w)
		}
	}
}

// does asks for something, and holds all steps of it against what they should answer.
func does(t *testing.T, e *Engine, th int, a api.Ask, want ...api.Reply) {
	t.Helper()
	ask(t, e, th, a)
	steps(t, e, th, want...)
}

// reads2 reads a variable by its two steps.
func reads2(t *testing.T, e *Engine, th, tvar int, v api.Val) {
	t.Helper()
	does(t, e, th, read(tvar), goesOn, hasRead(v))
}

// writesAll writes, by a thread that has an attempt.
func writesAll(t *testing.T, e *Engine, th int, pairs ...api.Pair) {
	t.Helper()
	for _, p := range pairs {
		does(t, e, th, write(p.Tvar, p.Val), isDone)
	}
}

// commits writes and commits, by a thread that has an attempt, whatever number of steps that takes.
func commits(t *testing.T, e *Engine, th int, pairs ...api.Pair) {
	t.Helper()
	writesAll(t, e, th, pairs...)
	ask(t, e, th, commit)
	for range 100 {
		r := e.Step(th)
		if r == isOver {
			return
		}
		if r != goesOn {
			t.Fatalf("commit of thread %d: %+v", th, r)
		}
	}
	t.Fatalf("commit of thread %d has no end", th)
}

// writesThrough begins, writes and commits.
func writesThrough(t *testing.T, e *Engine, th int, pairs ...api.Pair) {
	t.Helper()
	begin(t, e, th)
	commits(t, e, th, pairs...)
}

// takes begins an attempt that writes, and goes on till it has the lock.
func takes(t *testing.T, e *Engine, th int, pairs ...api.Pair) {
	t.Helper()
	begin(t, e, th)
	writesAll(t, e, th, pairs...)
	does(t, e, th, commit, goesOn, goesOn)
	if !e.Holds(th) {
		t.Fatalf("thread %d has no lock", th)
	}
}

// kinds are those of the events of an engine.
func kinds(e *Engine) []api.EventKind {
	var l []api.EventKind
	for _, ev := range e.Events() {
		l = append(l, ev.Kind)
	}
	return l
}

// stays tells whether work changes nothing of an engine.
func stays(t *testing.T, e *Engine, name string, work func()) {
	t.Helper()
	was := e.Fork()
	work()
	if !reflect.DeepEqual(was, e) {
		t.Errorf("%s changed something: %+v, not %+v", name, e, was)
	}
}

// setCount sets what the lock of an engine counts: nobody locks it so often.
func setCount(e *Engine, count uint64) {
	f := reflect.ValueOf(e.lock).Elem().FieldByName("count")
	*(*uint64)(unsafe.Pointer(f.UnsafeAddr())) = count
}

func TestNew(t *testing.T) {
	for n, want := range map[int]bool{0: false, 1: true, 2: true, api.MaxTvars: true, api.MaxTvars + 1: false, 1000: false} {
		e := New(make([]api.Val, n))
		if (e != nil) != want {
			t.Errorf("New of %d values: %v", n, e)
		}
		if e != nil && (len(e.Heap()) != n || len(e.Events()) != 0 || len(e.Order()) != 0 || len(e.Decided()) != 0 || e.Clock() != 0) {
			t.Errorf("New of %d values: %v", n, e)
		}
	}
	if New(nil) != nil {
		t.Error("New of no heap")
	}
	right := []api.Val{0, api.NegZero, api.NaN, api.Infinity, api.Infinity | api.NegZero, 1, two}
	if e := New(right); e == nil || !slices.Equal(e.Heap(), right) {
		t.Errorf("New of %v: %v", right, e)
	}
	for i := range right {
		for _, v := range []api.Val{notRight, api.NaN | api.NegZero, api.Infinity + 1, math.MaxUint64} {
			wrong := slices.Clone(right)
			wrong[i] = v
			if New(wrong) != nil {
				t.Errorf("New of %v", wrong)
			}
		}
	}
}

func TestBegin(t *testing.T) {
	e := made(t, 2)
	for _, th := range []int{math.MinInt, -1, api.MaxThreads, math.MaxInt} {
		stays(t, e, "Begin of no thread", func() {
			if n, errno := e.Begin(th); n != 0 || errno != api.ErrRange {
				t.Errorf("Begin(%d) is %d, %d", th, n, errno)
			}
		})
	}
	for want, th := range []int{0, api.MaxThreads - 1, 1} {
		if n, errno := e.Begin(th); n != want || errno != api.OK {
			t.Errorf("Begin(%d) is %d, %d", th, n, errno)
		}
		if n, ok := e.Attempt(th); n != want || !ok {
			t.Errorf("Attempt(%d) is %d, %v", th, n, ok)
		}
		stays(t, e, "Begin of one that has an attempt", func() {
			if n, errno := e.Begin(th); n != 0 || errno != api.ErrState {
				t.Errorf("Begin(%d) is %d, %d", th, n, errno)
			}
		})
	}
	if n, ok := e.Attempt(2); n != 0 || ok {
		t.Errorf("Attempt(2) is %d, %v", n, ok)
	}
	if want := []api.Event{{Kind: api.Began}, {Kind: api.Began, Attempt: 1}, {Kind: api.Began, Attempt: 2}}; !slices.Equal(e.Events(), want) {
		t.Errorf("Events are %v", e.Events())
	}
}

// TestBeginBusy: as long as somebody has the lock nobody begins; which thread it is, and whether it has an attempt, is told first.
func TestBeginBusy(t *testing.T) {
	e := made(t, 2)
	begin(t, e, 3)
	takes(t, e, 1, pair(0, two), pair(1, two))
	for range 3 {
		stays(t, e, "Begin while somebody has the lock", func() {
			for th, want := range map[int]api.Errno{-1: api.ErrRange, 0: api.ErrBusy, 1: api.ErrState, 2: api.ErrBusy, 3: api.ErrState, api.MaxThreads: api.ErrRange} {
				if n, errno := e.Begin(th); n != 0 || errno != want {
					t.Errorf("Begin(%d) is %d, %d", th, n, errno)
				}
			}
		})
		e.Step(1)
	}
	if n, errno := e.Begin(0); n != 2 || errno != api.OK {
		t.Errorf("Begin is %d, %d", n, errno)
	}
	reads2(t, e, 0, 1, two) // its snapshot is what the lock counts now
}

// TestMaxAttempts: MaxAttempts begin, and no more; that a thread has an attempt is told ahead of that, that somebody has the lock is told behind it.
func TestMaxAttempts(t *testing.T) {
	e := made(t, 1)
	for want := range api.MaxAttempts {
		th := want % 2
		if n, errno := e.Begin(th); n != want || errno != api.OK {
			t.Fatalf("Begin is %d, %d, not %d", n, errno, want)
		}
		if want < api.MaxAttempts-1 {
			e.Kill(th)
		}
	}
	refuses := func() {
		for th, want := range map[int]api.Errno{-1: api.ErrRange, 0: api.ErrSpace, 1: api.ErrState, 2: api.ErrSpace, api.MaxThreads: api.ErrRange} {
			if n, errno := e.Begin(th); n != 0 || errno != want {
				t.Errorf("Begin(%d) is %d, %d", th, n, errno)
			}
		}
	}
	stays(t, e, "Begin of too many", refuses)
	writesAll(t, e, 1, pair(0, two))
	does(t, e, 1, commit, goesOn, goesOn)
	if !e.Holds(1) {
		t.Error("it has no lock")
	}
	stays(t, e, "Begin of too many, while somebody has the lock", refuses)
	steps(t, e, 1, goesOn, isOver)
	if _, errno := e.Begin(1); errno != api.ErrSpace {
		t.Errorf("Begin is %d", errno)
	}
	if len(e.Order()) != api.MaxAttempts {
		t.Errorf("Order is %v", e.Order())
	}
}

// TestAskErrors: which error is told, the first one of those that apply.
func TestAskErrors(t *testing.T) {
	e := made(t, 3)
	refuses := func(th int, a api.Ask, want api.Errno) {
		t.Helper()
		stays(t, e, "Ask that is refused", func() {
			if errno := e.Ask(th, a); errno != want {
				t.Errorf("Ask(%d, %v) is %d, not %d", th, a, errno, want)
			}
		})
	}
	wrong := []api.Ask{{}, {Kind: api.AbortIt + 1}, {Kind: 255}, read(-1), read(3), read(math.MaxInt), write(3, 0), write(-1, notRight), write(3, notRight), write(math.MinInt, 0)}
	begin(t, e, 1, 3)
	ask(t, e, 3, read(0))
	for _, a := range slices.Concat(everyAsk, wrong, []api.Ask{write(0, notRight)}) {
		for _, th := range []int{math.MinInt, -1, api.MaxThreads, math.MaxInt} {
			refuses(th, a, api.ErrRange)
		}
		refuses(0, a, api.ErrState)
		refuses(3, a, api.ErrBusy)
	}
	steps(t, e, 3, goesOn)
	refuses(3, read(0), api.ErrBusy)
	for _, a := range wrong {
		refuses(1, a, api.ErrRange)
	}
	for _, v := range []api.Val{notRight, math.MaxUint64, api.NaN | api.NegZero} {
		refuses(1, write(0, v), api.ErrForm)
		refuses(1, write(2, v), api.ErrForm)
	}
	refuses(1, drop, api.ErrState)
	refuses(1, merge, api.ErrState)
	for range api.MaxDepth {
		does(t, e, 1, push, isDone)
		refuses(1, commit, api.ErrState)
	}
	refuses(1, push, api.ErrSpace)
}

// TestAskEach: each kind can be asked for, at the edges of what it may name.
func TestAskEach(t *testing.T) {
	for _, a := range []api.Ask{read(0), read(2), {Kind: api.ReadIt, Tvar: 1, Val: notRight}, write(0, two), write(2, api.NaN), write(1, api.NegZero),
		push, drop, merge, abort, {Kind: api.PushIt, Tvar: -7, Val: notRight}, {Kind: api.AbortIt, Tvar: 99}} {
		e := made(t, 3)
		begin(t, e, 2)
		does(t, e, 2, push, isDone)
		if got, ok := e.Asked(2); got != (api.Ask{}) || ok {
			t.Errorf("Asked is %v, %v", got, ok)
		}
		events := e.Events()
		ask(t, e, 2, a)
		if got, ok := e.Asked(2); got != a || !ok {
			t.Errorf("Asked is %v, %v, not %v", got, ok, a)
		}
		if !slices.Equal(e.Events(), events) {
			t.Errorf("Ask of %v is an event", a)
		}
		if _, ok := e.Asked(1); ok {
			t.Error("Asked of another thread")
		}
	}
	e := made(t, 1)
	begin(t, e, 0)
	ask(t, e, 0, commit)
	if got, ok := e.Asked(0); got != commit || !ok {
		t.Errorf("Asked is %v, %v", got, ok)
	}
}

// TestAskAnew: what was asked for last time leaves nothing, the place neither.
func TestAskAnew(t *testing.T) {
	e := made(t, 2)
	begin(t, e, 0)
	reads2(t, e, 0, 0, 0)
	writesThrough(t, e, 1, pair(1, two))
	does(t, e, 0, read(1), goesOn, goesOn, goesOn, goesOn, goesOn, goesOn, goesOn, hasRead(two))
	reads2(t, e, 0, 0, 0)
	does(t, e, 0, write(0, three), isDone)
	does(t, e, 0, commit, goesOn, goesOn, goesOn, isOver)
}

func TestStepErrors(t *testing.T) {
	e := made(t, 1)
	begin(t, e, 1)
	does(t, e, 1, write(0, two), isDone)
	stays(t, e, "Step that is refused", func() {
		for th, want := range map[int]api.Errno{math.MinInt: api.ErrRange, -1: api.ErrRange, 0: api.ErrState, 1: api.ErrState, 3: api.ErrState, api.MaxThreads: api.ErrRange, math.MaxInt: api.ErrRange} {
			steps(t, e, th, api.Reply{Errno: want})
		}
	})
}

func TestAbortIt(t *testing.T) {
	e := made(t, 1)
	begin(t, e, 0, 1)
	does(t, e, 1, push, isDone)
	does(t, e, 1, write(0, two), isDone)
	does(t, e, 1, abort, endsBy(api.Asked))
	if want := (api.Event{Kind: api.Aborted, Attempt: 1}); e.Events()[4] != want || len(e.Events()) != 5 {
		t.Errorf("Events are %v", e.Events())
	}
	if e.Why(1) != api.Asked || e.Why(0) != api.NoReason || e.Heap()[0] != 0 || e.Clock() != 0 {
		t.Error(e.Why(1), e.Why(0), e.Heap(), e.Clock())
	}
	if _, ok := e.Attempt(1); ok || e.Ask(1, read(0)) != api.ErrState || e.Step(1).Errno != api.ErrState || len(e.Writes(1)) != 0 {
		t.Error("it has an attempt still")
	}
	if n, errno := e.Begin(1); n != 2 || errno != api.OK || len(e.Writes(1)) != 0 {
		t.Error(n, errno, e.Writes(1))
	}
	does(t, e, 1, commit, isOver)
}

// TestWhileLocked: what needs no look at the heap is done, whoever has the lock.
func TestWhileLocked(t *testing.T) {
	e := made(t, 2)
	begin(t, e, 0, 2)
	takes(t, e, 1, pair(0, two))
	does(t, e, 0, write(1, three), isDone)
	does(t, e, 0, push, isDone)
	does(t, e, 0, write(1, two), isDone)
	does(t, e, 0, read(1), hasRead(two))
	does(t, e, 0, drop, isDone)
	does(t, e, 0, push, isDone)
	does(t, e, 0, merge, isDone)
	does(t, e, 0, read(1), hasRead(three))
	does(t, e, 0, abort, endsBy(api.Asked))
	does(t, e, 2, commit, isOver)
	steps(t, e, 1, goesOn, isOver)
}

// TestFrames: frames are dropped and merged as writes has it.
func TestFrames(t *testing.T) {
	e := made(t, 3)
	begin(t, e, 0)
	has := func(want ...api.Pair) {
		t.Helper()
		if got := e.Writes(0); !slices.Equal(got, want) {
			t.Errorf("Writes are %v, not %v", got, want)
		}
	}
	has()
	does(t, e, 0, write(1, two), isDone)
	does(t, e, 0, push, isDone)
	does(t, e, 0, write(1, three), isDone)
	does(t, e, 0, write(0, three), isDone)
	has(pair(0, three), pair(1, three))
	does(t, e, 0, drop, isDone)
	has(pair(1, two))
	does(t, e, 0, push, isDone)
	does(t, e, 0, write(2, api.NaN), isDone)
	does(t, e, 0, merge, isDone)
	has(pair(1, two), pair(2, api.NaN))
	want := []api.Event{{Kind: api.Began}, {Kind: api.Wrote, Tvar: 1, Val: two}, {Kind: api.Pushed}, {Kind: api.Wrote, Tvar: 1, Val: three}, {Kind: api.Wrote, Val: three},
		{Kind: api.Dropped}, {Kind: api.Pushed}, {Kind: api.Wrote, Tvar: 2, Val: api.NaN}, {Kind: api.Merged}}
	if !slices.Equal(e.Events(), want) {
		t.Errorf("Events are %v", e.Events())
	}
	if !slices.Equal(e.Heap(), make([]api.Val, 3)) {
		t.Errorf("the heap is %v", e.Heap())
	}
}

// TestMaxWrites: what would be one value more than MaxWrites ends the attempt by Full; one that is there already does not.
func TestMaxWrites(t *testing.T) {
	e := made(t, api.MaxTvars)
	begin(t, e, 0)
	for tvar := range api.MaxTvars {
		does(t, e, 0, write(tvar, two), isDone)
	}
	does(t, e, 0, push, isDone)
	for tvar := range api.MaxWrites - api.MaxTvars {
		does(t, e, 0, write(tvar, three), isDone)
	}
	does(t, e, 0, write(0, two), isDone)
	events := len(e.Events())
	does(t, e, 0, write(api.MaxTvars-1, three), endsBy(api.Full))
	if got := e.Events()[events:]; !slices.Equal(got, []api.Event{{Kind: api.Aborted}}) || e.Why(0) != api.Full {
		t.Errorf("Events are %v, Why is %d", got, e.Why(0))
	}
	if _, ok := e.Attempt(0); ok || !slices.Equal(e.Heap(), make([]api.Val, api.MaxTvars)) {
		t.Error("it goes on")
	}
}

func TestMaxDepth(t *testing.T) {
	e := made(t, 1)
	begin(t, e, 0)
	for range api.MaxDepth {
		does(t, e, 0, push, isDone)
	}
	if e.Ask(0, push) != api.ErrSpace {
		t.Error("one frame more")
	}
	for range api.MaxDepth {
		does(t, e, 0, merge, isDone)
	}
	if e.Ask(0, merge) != api.ErrState || e.Ask(0, drop) != api.ErrState {
		t.Error("no frame")
	}
	does(t, e, 0, commit, isOver)
}

func TestReadIt(t *testing.T) {
	e := New([]api.Val{two, api.NegZero, three})
	begin(t, e, 3)
	ask(t, e, 3, read(1))
	steps(t, e, 3, goesOn)
	if got, ok := e.Asked(3); got != read(1) || !ok || len(e.Reads(3)) != 0 || len(e.Events()) != 1 {
		t.Errorf("%v, %v, %v, %v", got, ok, e.Reads(3), e.Events())
	}
	steps(t, e, 3, hasRead(api.NegZero))
	if _, ok := e.Asked(3); ok || !slices.Equal(e.Reads(3), []api.Entry{{Tvar: 1, Val: api.NegZero}}) {
		t.Errorf("Reads are %v", e.Reads(3))
	}
	reads2(t, e, 3, 0, two)
	reads2(t, e, 3, 1, api.NegZero)
	if want := []api.Entry{{Tvar: 1, Val: api.NegZero}, {Tvar: 0, Val: two}}; !slices.Equal(e.Reads(3), want) {
		t.Errorf("Reads are %v", e.Reads(3))
	}
	want := []api.Event{{Kind: api.Began}, {Kind: api.Read, Tvar: 1, Val: api.NegZero}, {Kind: api.Read, Val: two}, {Kind: api.Read, Tvar: 1, Val: api.NegZero}}
	if !slices.Equal(e.Events(), want) || !e.Valid(3) {
		t.Errorf("Events are %v", e.Events())
	}
	does(t, e, 3, commit, isOver)
}

// TestReadVersion: what was read has version 0, whatever the lock counts.
func TestReadVersion(t *testing.T) {
	e := made(t, 1)
	writesThrough(t, e, 0, pair(0, two))
	begin(t, e, 1)
	reads2(t, e, 1, 0, two)
	if got := e.Reads(1); !slices.Equal(got, []api.Entry{{Val: two}}) || e.Clock() != 2 {
		t.Errorf("Reads are %v", got)
	}
}

// TestReadOwn: of its own log it reads by one step, whoever has the lock, and whatever it counts; nothing is among its reads.
func TestReadOwn(t *testing.T) {
	e := made(t, 2)
	begin(t, e, 0)
	does(t, e, 0, write(1, two), isDone)
	takes(t, e, 1, pair(0, three), pair(1, three))
	does(t, e, 0, read(1), hasRead(two))
	steps(t, e, 1, goesOn, goesOn, isOver)
	does(t, e, 0, push, isDone)
	does(t, e, 0, read(1), hasRead(two))
	does(t, e, 0, write(1, three), isDone)
	does(t, e, 0, read(1), hasRead(three))
	does(t, e, 0, drop, isDone)
	does(t, e, 0, read(1), hasRead(two))
	if want := (api.Event{Kind: api.Read, Tvar: 1, Val: two}); e.Events()[len(e.Events())-1] != want || len(e.Reads(0)) != 0 {
		t.Errorf("Events are %v, Reads are %v", e.Events(), e.Reads(0))
	}
	does(t, e, 0, push, isDone)
	does(t, e, 0, write(0, two), isDone)
	does(t, e, 0, drop, isDone)
	does(t, e, 0, read(0), goesOn, goesOn, goesOn, goesOn, goesOn, goesOn, hasRead(three))
}

// TestReadLooksAgain: a read while the lock counts another number than the snapshot goes on from its place 0, and answers what stands there then.
func TestReadLooksAgain(t *testing.T) {
	e := made(t, 3)
	begin(t, e, 0)
	reads2(t, e, 0, 0, 0)
	reads2(t, e, 0, 1, 0)
	ask(t, e, 0, read(2))
	steps(t, e, 0, goesOn) // 0 is noted
	writesThrough(t, e, 1, pair(2, two))
	events := len(e.Events())
	for range 6 { // the lock counts another number; a; two reads; none left; c
		steps(t, e, 0, goesOn)
		if got, ok := e.Asked(0); got != read(2) || !ok || len(e.Reads(0)) != 2 || len(e.Events()) != events {
			t.Errorf("%v, %v, %v, %v", got, ok, e.Reads(0), e.Events())
		}
	}
	steps(t, e, 0, goesOn, hasRead(two))
	if want := []api.Entry{{}, {Tvar: 1}, {Tvar: 2, Val: two}}; !slices.Equal(e.Reads(0), want) {
		t.Errorf("Reads are %v", e.Reads(0))
	}
	if !slices.Equal(e.Order(), []int{1, 0}) {
		t.Errorf("Order is %v", e.Order())
	}
	reads2(t, e, 0, 2, two)
}

// TestReadNotesUnderTheLock: the heap's value is noted whoever has the lock; it is not taken.
func TestReadNotesUnderTheLock(t *testing.T) {
	e := made(t, 2)
	begin(t, e, 0)
	takes(t, e, 1, pair(0, two), pair(1, two))
	steps(t, e, 1, goesOn) // 0 is written, 1 is not
	does(t, e, 0, read(0), goesOn, goesOn)
	stays(t, e, "a busy step", func() { steps(t, e, 0, isBusy(1), isBusy(1)) })
	steps(t, e, 1, goesOn, isOver)
	steps(t, e, 0, goesOn, goesOn, goesOn, goesOn, hasRead(two))
	reads2(t, e, 0, 1, two)
}

// TestLookFirstStep: the step that sees that the lock counts another number changes nothing but the place.
func TestLookFirstStep(t *testing.T) {
	for _, a := range []api.Ask{read(1), commit} {
		e := made(t, 2)
		begin(t, e, 0)
		reads2(t, e, 0, 1, 0)
		does(t, e, 0, write(0, two), isDone)
		ask(t, e, 0, a)
		steps(t, e, 0, goesOn)
		takes(t, e, 1, pair(0, three))
		was := e.Fork()
		steps(t, e, 0, goesOn)
		if !reflect.DeepEqual(e.Events(), was.Events()) || !slices.Equal(e.Order(), was.Order()) || e.Clock() != was.Clock() || !slices.Equal(e.Heap(), was.Heap()) || !slices.Equal(e.Reads(0), was.Reads(0)) {
			t.Errorf("of %v something changed", a)
		}
		stays(t, e, "a busy step", func() { steps(t, e, 0, isBusy(1), isBusy(1), isBusy(1)) })
	}
}

// lookingAgain is an engine whose thread 0 has read 0 and 1, both 0, and asks for something that looks again, from a on; thread 1 has no attempt.
func lookingAgain(t *testing.T, a api.Ask) *Engine {
	t.Helper()
	e := made(t, 4)
	begin(t, e, 0)
	reads2(t, e, 0, 0, 0)
	reads2(t, e, 0, 1, 0)
	if a == commit {
		does(t, e, 0, write(3, two), isDone)
	}
	writesThrough(t, e, 1, pair(2, two))
	does(t, e, 0, a, goesOn, goesOn)
	return e
}

// lastSteps are those behind looking again, of a read of 2, and of a commit of one write.
func lastSteps(a api.Ask) []api.Reply {
	if a == commit {
		return []api.Reply{goesOn, goesOn, isOver}
	}
	return []api.Reply{goesOn, hasRead(two)}
}

// TestLookCountsAnother: if the lock counts another number at c, it looks at all again; how far it was when that came is of no matter.
func TestLookCountsAnother(t *testing.T) {
	for _, a := range []api.Ask{read(2), commit} {
		for behind := range 5 { // a, two reads, none left, c
			e := lookingAgain(t, a)
			for range behind {
				steps(t, e, 0, goesOn)
			}
			writesThrough(t, e, 1, pair(0, 0))
			want := []api.Reply{goesOn, goesOn, goesOn, goesOn, goesOn}[behind:]
			if behind > 0 {
				want = append(want, goesOn, goesOn, goesOn, goesOn, goesOn)
			}
			steps(t, e, 0, append(want, lastSteps(a)...)...)
			if !slices.Equal(e.Order(), []int{1, 2, 0}) {
				t.Errorf("Order is %v", e.Order())
			}
		}
	}
}

// TestLookLocked: while somebody has the lock it is busy at a alone; at b it looks at the heap all the same, and at c the lock counts another number.
func TestLookLocked(t *testing.T) {
	for _, a := range []api.Ask{read(2), commit} {
		for behind := range 5 {
			e := lookingAgain(t, a)
			for range behind {
				steps(t, e, 0, goesOn)
			}
			takes(t, e, 2, pair(0, 0))
			if behind > 0 {
				for range 5 - behind {
					steps(t, e, 0, goesOn)
				}
			}
			stays(t, e, "a busy step", func() { steps(t, e, 0, isBusy(2), isBusy(2)) })
			steps(t, e, 2, goesOn, isOver)
			steps(t, e, 0, append([]api.Reply{goesOn, goesOn, goesOn, goesOn, goesOn}, lastSteps(a)...)...)
		}
	}
}

// TestLookChanged: a read that is another one ends it by Changed at the step that looks at it; what was looked at ahead is looked at again behind c.
func TestLookChanged(t *testing.T) {
	for _, a := range []api.Ask{read(2), commit} {
		for tvar := range 2 {
			for behind := range 5 {
				e := lookingAgain(t, a)
				for range behind {
					steps(t, e, 0, goesOn)
				}
				writesThrough(t, e, 1, pair(tvar, two))
				ahead := 1 + tvar - behind // steps till it looks at the variable
				if ahead < 0 {
					ahead += 5
				}
				for range ahead {
					steps(t, e, 0, goesOn)
				}
				events := len(e.Events())
				steps(t, e, 0, endsBy(api.Changed))
				if got := e.Events()[events:]; !slices.Equal(got, []api.Event{{Kind: api.Aborted}}) || e.Why(0) != api.Changed {
					t.Errorf("Events are %v, Why is %d", got, e.Why(0))
				}
				if _, has := e.Attempt(0); has || e.Holds(0) || e.Clock() != 4 || e.Heap()[3] != 0 || !slices.Equal(e.Order(), []int{0, 1, 2}) {
					t.Errorf("%v, %d, %v", e.Holds(0), e.Clock(), e.Order())
				}
			}
		}
	}
}

// TestLookHalfWritten: also what stands in the heap while somebody writes is another value, and ends it by Changed.
func TestLookHalfWritten(t *testing.T) {
	e := lookingAgain(t, read(2))
	steps(t, e, 0, goesOn) // a
	takes(t, e, 1, pair(1, two))
	steps(t, e, 1, goesOn)
	steps(t, e, 0, goesOn, endsBy(api.Changed))
}

// TestSameAgain: what has the same value again is not Changed, whatever was written meanwhile; -0 is another value than 0, and NaN is the same (P11.7).
func TestSameAgain(t *testing.T) {
	all := []api.Val{0, api.NegZero, api.NaN, api.Infinity, api.One}
	for _, was := range all {
		for _, then := range all {
			for _, a := range []api.Ask{read(1), commit} {
				e := New([]api.Val{was, 0})
				begin(t, e, 0)
				reads2(t, e, 0, 0, was)
				if a == commit {
					does(t, e, 0, write(1, two), isDone)
				}
				writesThrough(t, e, 1, pair(0, two), pair(1, two))
				writesThrough(t, e, 2, pair(0, then), pair(1, 0))
				if e.Valid(0) != (was == then) {
					t.Errorf("Valid of %x, that was %x, is %v", then, was, e.Valid(0))
				}
				does(t, e, 0, a, goesOn, goesOn, goesOn)
				if was != then {
					steps(t, e, 0, endsBy(api.Changed))
					continue
				}
				steps(t, e, 0, goesOn, goesOn, goesOn)
				if a == commit {
					steps(t, e, 0, goesOn, goesOn, isOver)
				} else {
					steps(t, e, 0, goesOn, hasRead(0))
				}
			}
		}
	}
}

// TestReadAgainChanged: a variable that it has read is not read anew with another value.
func TestReadAgainChanged(t *testing.T) {
	e := made(t, 1)
	begin(t, e, 0)
	reads2(t, e, 0, 0, 0)
	writesThrough(t, e, 1, pair(0, two))
	does(t, e, 0, read(0), goesOn, goesOn, goesOn, endsBy(api.Changed))
	if want := []api.EventKind{api.Began, api.Read, api.Began, api.Wrote, api.Tried, api.Committed, api.Aborted}; !slices.Equal(kinds(e), want) {
		t.Errorf("Events are %v", kinds(e))
	}
}

// TestMaxReads: one variable more than MaxReads ends it by Full; one that it has read does not, nor one of its own log.
func TestMaxReads(t *testing.T) {
	e := made(t, api.MaxTvars)
	begin(t, e, 1)
	for tvar := range api.MaxReads {
		reads2(t, e, 1, tvar, 0)
	}
	reads2(t, e, 1, 0, 0)
	does(t, e, 1, write(api.MaxReads, two), isDone)
	does(t, e, 1, read(api.MaxReads), hasRead(two))
	events := len(e.Events())
	does(t, e, 1, read(api.MaxReads+1), goesOn, endsBy(api.Full))
	if got := kinds(e)[events:]; !slices.Equal(got, []api.EventKind{api.Aborted}) || e.Why(0) != api.Full {
		t.Errorf("Events are %v, Why is %d", got, e.Why(0))
	}
	if _, has := e.Attempt(1); has {
		t.Error("it has an attempt still")
	}
}

// TestCommitWithoutWrites: one step, that asks for no lock, and lets it count what it did; also if what it read is another one by now, and while somebody has the lock.
func TestCommitWithoutWrites(t *testing.T) {
	e := made(t, 2)
	begin(t, e, 0)
	reads2(t, e, 0, 0, 0)
	takes(t, e, 1, pair(0, two))
	steps(t, e, 1, goesOn)
	if e.Valid(0) {
		t.Error("what it read is another one")
	}
	does(t, e, 0, push, isDone)
	does(t, e, 0, write(1, two), isDone)
	does(t, e, 0, drop, isDone)
	does(t, e, 0, commit, isOver)
	if got := kinds(e)[len(e.Events())-2:]; !slices.Equal(got, []api.EventKind{api.Tried, api.Committed}) || e.Clock() != 1 || e.Why(0) != api.NoReason {
		t.Errorf("%v, %d, %d", got, e.Clock(), e.Why(0))
	}
	if !slices.Equal(e.Order(), []int{0, 1}) || e.Heap()[1] != 0 || e.Holds(0) || !e.Holds(1) {
		t.Errorf("Order is %v", e.Order())
	}
	if _, ok := e.Attempt(0); ok {
		t.Error("it has an attempt still")
	}
	if _, ok := e.Asked(0); ok {
		t.Error("something is asked for")
	}
}
