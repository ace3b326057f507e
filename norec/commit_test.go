package norec

import (
	"math"
	"reflect"
	"slices"
	"testing"

	"rowlock/api"
)

// glance is what all can see of an engine whose thread 0 commits attempt 1, while thread 1 has attempt 0.
type glance struct {
	events              int
	heap                []api.Val
	order, decided      []int
	holds, valid, other bool
	asked               bool
	clock               uint64
	reads, writes       int
	killed              api.Errno
}

func glanceAt(e *Engine) glance {
	_, asked := e.Asked(0)
	g := glance{events: len(e.Events()), heap: e.Heap(), order: e.Order(), decided: e.Decided(), holds: e.Holds(0), valid: e.Valid(0), other: e.Valid(1),
		asked: asked, clock: e.Clock(), reads: len(e.Reads(0)), writes: len(e.Writes(0))}
	f := e.Fork()
	g.killed = f.Kill(0)
	return g
}

// TestCommitPlaces: a commit with reads and several writes, that looks again, step by step, and all that can be seen at each place.
func TestCommitPlaces(t *testing.T) {
	e := made(t, 4)
	begin(t, e, 1, 0)
	reads2(t, e, 1, 2, 0)
	reads2(t, e, 0, 0, 0)
	reads2(t, e, 0, 3, 0)
	writesAll(t, e, 0, pair(2, three), pair(0, two))
	writesThrough(t, e, 2, pair(1, two))
	ask(t, e, 0, commit)
	none := []api.Val{0, two, 0, 0}
	half := []api.Val{two, two, 0, 0}
	full := []api.Val{two, two, three, 0}
	early, late := []int{0, 1, 2}, []int{0, 2, 1}
	rows := []struct {
		reply api.Reply
		want  glance
	}{
		{goesOn, glance{11, none, early, nil, false, true, true, true, 2, 2, 2, api.OK}},                                 // asked for
		{goesOn, glance{12, none, early, nil, false, true, true, true, 2, 2, 2, api.OK}},                                 // Tried
		{goesOn, glance{12, none, early, nil, false, true, true, true, 2, 2, 2, api.OK}},                                 // the lock counts another number
		{goesOn, glance{12, none, early, nil, false, true, true, true, 2, 2, 2, api.OK}},                                 // a
		{goesOn, glance{12, none, early, nil, false, true, true, true, 2, 2, 2, api.OK}},                                 // b: a read
		{goesOn, glance{12, none, early, nil, false, true, true, true, 2, 2, 2, api.OK}},                                 // another one
		{goesOn, glance{12, none, early, nil, false, true, true, true, 2, 2, 2, api.OK}},                                 // none left
		{goesOn, glance{12, none, late, nil, false, true, true, true, 2, 2, 2, api.OK}},                                  // c: another snapshot
		{goesOn, glance{12, none, late, []int{1}, true, false, false, true, 3, 2, 2, api.ErrState}},                      // decided
		{goesOn, glance{12, half, late, []int{1}, true, false, false, true, 3, 2, 2, api.ErrState}},                      // a write
		{goesOn, glance{12, full, late, []int{1}, true, false, false, true, 3, 2, 2, api.ErrState}},                      // another one
		{isOver, glance{13, full, late, nil, false, false, false, false, 4, 0, 0, api.ErrState}},                         // unlocked
		{api.Reply{Errno: api.ErrState}, glance{13, full, late, nil, false, false, false, false, 4, 0, 0, api.ErrState}}, // nothing is asked for
	}
	for i, r := range rows {
		if i > 0 {
			steps(t, e, 0, r.reply)
		}
		if got := glanceAt(e); !reflect.DeepEqual(got, r.want) {
			t.Errorf("behind step %d: %+v, not %+v", i, got, r.want)
		}
	}
	if got := e.Events()[11:]; !slices.Equal(got, []api.Event{{Kind: api.Tried, Attempt: 1}, {Kind: api.Committed, Attempt: 1}}) || e.Why(1) != api.NoReason {
		t.Errorf("Events are %v", got)
	}
}

// TestCommitOne: with one write, and nobody else, a commit is four steps; the lock counts 2 more behind it.
func TestCommitOne(t *testing.T) {
	e := made(t, 1)
	for n := range 5 {
		begin(t, e, 2)
		does(t, e, 2, write(0, two), isDone)
		does(t, e, 2, commit, goesOn, goesOn, goesOn, isOver)
		if e.Clock() != uint64(2*n+2) || e.Heap()[0] != two {
			t.Errorf("it counts %d, the heap is %v", e.Clock(), e.Heap())
		}
	}
}

// TestCommitRises: writes stand in the heap rising, one a step, whatever the order in which they were asked for.
func TestCommitRises(t *testing.T) {
	e := made(t, 3)
	begin(t, e, 0)
	writesAll(t, e, 0, pair(2, two), pair(0, two), pair(1, two))
	does(t, e, 0, commit, goesOn, goesOn)
	for n := range 3 {
		steps(t, e, 0, goesOn)
		want := make([]api.Val, 3)
		for i := range n + 1 {
			want[i] = two
		}
		if !slices.Equal(e.Heap(), want) {
			t.Errorf("the heap is %v, not %v", e.Heap(), want)
		}
	}
	steps(t, e, 0, isOver)
}

// TestCommitBusy: while another thread has the lock a commit with writes looks again, and is busy there.
func TestCommitBusy(t *testing.T) {
	e := made(t, 2)
	begin(t, e, 0, 3)
	writesAll(t, e, 0, pair(0, two))
	writesAll(t, e, 3, pair(1, three))
	does(t, e, 0, commit, goesOn, goesOn)
	does(t, e, 3, commit, goesOn, goesOn)
	stays(t, e, "a busy step", func() { steps(t, e, 3, isBusy(0), isBusy(0)) })
	if !slices.Equal(e.Decided(), []int{0}) || !e.Holds(0) || e.Holds(3) {
		t.Errorf("Decided are %v", e.Decided())
	}
	steps(t, e, 0, goesOn)
	steps(t, e, 3, isBusy(0))
	steps(t, e, 0, isOver)
	steps(t, e, 3, goesOn, goesOn, goesOn) // a, none left, c
	steps(t, e, 3, goesOn, goesOn, isOver)
	if !slices.Equal(e.Heap(), []api.Val{two, three}) || e.Clock() != 4 || !slices.Equal(e.Order(), []int{0, 1}) {
		t.Errorf("%v, %d, %v", e.Heap(), e.Clock(), e.Order())
	}
}

// TestCommitOvertaken: one that writes between c and the lock lets it look again once more.
func TestCommitOvertaken(t *testing.T) {
	e := lookingAgain(t, commit)
	steps(t, e, 0, goesOn, goesOn, goesOn, goesOn, goesOn)
	writesThrough(t, e, 1, pair(2, three))
	steps(t, e, 0, goesOn) // the lock counts another number
	steps(t, e, 0, goesOn, goesOn, goesOn, goesOn, goesOn)
	steps(t, e, 0, goesOn, goesOn, isOver)
	if !slices.Equal(e.Heap(), []api.Val{0, 0, three, two}) || !slices.Equal(e.Order(), []int{1, 2, 0}) {
		t.Errorf("%v, %v", e.Heap(), e.Order())
	}
}

// TestCountEnd: where the lock has no further number a commit with writes ends by Full, and the lock is as it was; one write ahead of that there is one more. That the snapshot is another one is told first.
func TestCountEnd(t *testing.T) {
	e := made(t, 2)
	setCount(e, api.MaxVersion-2)
	begin(t, e, 0, 1)
	reads2(t, e, 1, 1, 0)
	does(t, e, 1, write(1, three), isDone)
	commits(t, e, 0, pair(0, two))
	if e.Clock() != api.MaxVersion || e.Heap()[0] != two {
		t.Errorf("it counts %d", e.Clock())
	}
	begin(t, e, 2)
	reads2(t, e, 2, 0, two)
	does(t, e, 2, write(0, three), isDone)
	does(t, e, 2, commit, goesOn, endsBy(api.Full))
	if e.Why(2) != api.Full || e.Clock() != api.MaxVersion || e.Holds(2) || len(e.Decided()) != 0 || !slices.Equal(e.Heap(), []api.Val{two, 0}) {
		t.Errorf("%d, %d, %v", e.Why(2), e.Clock(), e.Heap())
	}
	if got := kinds(e)[len(e.Events())-2:]; !slices.Equal(got, []api.EventKind{api.Tried, api.Aborted}) {
		t.Errorf("Events are %v", got)
	}
	does(t, e, 1, commit, goesOn, goesOn, goesOn, goesOn, goesOn, goesOn, endsBy(api.Full))
	if !slices.Equal(e.Order(), []int{0, 1, 2}) || e.Why(1) != api.Full {
		t.Errorf("Order is %v", e.Order())
	}
	begin(t, e, 3)
	reads2(t, e, 3, 0, two)
	does(t, e, 3, commit, isOver)
}

// TestKillErrors: who has no attempt can't be killed.
func TestKillErrors(t *testing.T) {
	e := made(t, 1)
	begin(t, e, 1)
	stays(t, e, "Kill that is refused", func() {
		for th, want := range map[int]api.Errno{math.MinInt: api.ErrRange, -1: api.ErrRange, 0: api.ErrState, 3: api.ErrState, api.MaxThreads: api.ErrRange, math.MaxInt: api.ErrRange} {
			if errno := e.Kill(th); errno != want {
				t.Errorf("Kill(%d) is %d", th, errno)
			}
		}
	})
	if e.Kill(1) != api.OK || e.Kill(1) != api.ErrState {
		t.Error("Kill")
	}
	begin(t, e, 1)
	does(t, e, 1, commit, isOver)
	if e.Kill(1) != api.ErrState || e.Why(1) != api.NoReason || e.Why(0) != api.Killed {
		t.Error("Kill of one that has committed")
	}
}

// killStart is an engine whose thread 2 has attempt 2, with a read, two writes and a frame; with late the lock counts another number than its snapshot.
func killStart(t *testing.T, late bool) *Engine {
	t.Helper()
	e := made(t, 4)
	writesThrough(t, e, 3, pair(0, two), pair(1, two))
	begin(t, e, 0, 2)
	reads2(t, e, 2, 0, two)
	writesAll(t, e, 2, pair(0, three), pair(3, three))
	does(t, e, 2, push, isDone)
	if late {
		writesThrough(t, e, 3, pair(1, three))
	}
	return e
}

// TestKillEachPlace: it ends by Killed at each place of all that can be asked for, till it is decided; nothing of it is left.
func TestKillEachPlace(t *testing.T) {
	for late, want := range map[bool]int{
		false: 7 + 2 + 2,                     // one place each of seven; a read has two, and a commit two till it is decided
		true:  7 + (2 + 4 + 2) + (2 + 4 + 1), // both look again, at a, b twice, and c; then the read is at 0 and 1 once more, the commit at 1
	} {
		start, killedAt := killStart(t, late), 0
		for _, a := range slices.Concat(everyAsk, []api.Ask{read(2), {}}) {
			e := start.Fork()
			if a == commit {
				does(t, e, 2, merge, isDone)
			}
			if a.Kind != api.NoAsk {
				ask(t, e, 2, a)
			}
			killedAt += killAlong(t, e, start)
		}
		if killedAt != want {
			t.Errorf("it was killed at %d places, not %d", killedAt, want)
		}
	}
}

// killAlong kills attempt 2 behind each step of what is asked for, and tells how often that was done.
func killAlong(t *testing.T, e, start *Engine) int {
	t.Helper()
	killed := 0
	for range 30 {
		f := e.Fork()
		if slices.Contains(f.Decided(), 2) {
			stays(t, f, "Kill of one that is decided", func() {
				if f.Kill(2) != api.ErrState {
					t.Error("one that is decided was killed")
				}
			})
		} else {
			killed++
			leavesNothing(t, f, start, len(e.Events()))
		}
		if r := e.Step(2); r.Done || r.Errno != api.OK {
			return killed
		}
	}
	t.Fatal("it has no end")
	return killed
}

// leavesNothing kills attempt 2 of thread 2, and holds what is left against how it all was.
func leavesNothing(t *testing.T, e, start *Engine, events int) {
	t.Helper()
	if errno := e.Kill(2); errno != api.OK {
		t.Fatalf("Kill is %d", errno)
	}
	if e.Holds(2) || e.Clock() != start.Clock() || !slices.Equal(e.Heap(), start.Heap()) || e.Valid(2) {
		t.Errorf("it counts %d, the heap is %v", e.Clock(), e.Heap())
	}
	_, has := e.Attempt(2)
	_, asked := e.Asked(2)
	if has || asked || len(e.Reads(2)) != 0 || len(e.Writes(2)) != 0 || e.Step(2) != (api.Reply{Errno: api.ErrState}) {
		t.Error("it has an attempt still")
	}
	if got := e.Events()[events:]; !slices.Equal(got, []api.Event{{Kind: api.Aborted, Attempt: 2}}) || e.Why(2) != api.Killed {
		t.Errorf("Events are %v, Why is %d", got, e.Why(2))
	}
	if len(e.Order()) != len(start.Order()) || len(e.Decided()) != 0 {
		t.Errorf("Order is %v, Decided are %v", e.Order(), e.Decided())
	}
	if n, ok := e.Attempt(0); n != 1 || !ok {
		t.Error("another one is gone")
	}
}

// TestOrder: by the snapshot, and 2 of those that are decided, or committed with writes, and 1 of all others.
func TestOrder(t *testing.T) {
	e := made(t, 4)
	has := func(want ...int) {
		t.Helper()
		if got := e.Order(); !slices.Equal(got, want) {
			t.Errorf("Order is %v, not %v", got, want)
		}
	}
	begin(t, e, 0, 1, 2)           // 0, 1, 2 of snapshot 0
	commits(t, e, 0, pair(0, two)) // 0: 2; the others: 1
	has(1, 2, 0)
	begin(t, e, 0) // 3 of snapshot 2: 3
	has(1, 2, 0, 3)
	does(t, e, 1, write(1, two), isDone)
	does(t, e, 1, commit, goesOn, goesOn, goesOn, goesOn)
	has(1, 2, 0, 3)
	steps(t, e, 1, goesOn) // 1 of snapshot 2: 3, as 3 has it
	has(2, 0, 1, 3)
	steps(t, e, 1, goesOn) // decided: 4
	has(2, 0, 3, 1)
	steps(t, e, 1, goesOn, isOver)
	has(2, 0, 3, 1)
	begin(t, e, 1) // 4 of snapshot 4: 5
	has(2, 0, 3, 1, 4)
	e.Kill(2)
	does(t, e, 0, commit, isOver) // without writes
	has(2, 0, 3, 1, 4)
	does(t, e, 1, write(0, two), isDone)
	does(t, e, 1, abort, endsBy(api.Asked))
	begin(t, e, 2, 3) // 5 and 6 of snapshot 4
	commits(t, e, 3, pair(0, two))
	begin(t, e, 1) // 7 of snapshot 6
	does(t, e, 2, read(0), goesOn, goesOn, goesOn, goesOn, goesOn)
	has(2, 0, 3, 1, 4, 6, 5, 7) // 5 of snapshot 6, as 7
}

// TestDecided: it is the one that has the lock, till it ends.
func TestDecided(t *testing.T) {
	e := made(t, 2)
	begin(t, e, 3, 1, 2)
	for number, th := range []int{3, 1, 2} {
		writesAll(t, e, th, pair(th%2, two))
		ask(t, e, th, commit)
		for len(e.Decided()) == 0 {
			if e.Holds(th) {
				t.Fatal("it has the lock, and is not decided")
			}
			e.Step(th)
		}
		for range 2 {
			for other := -1; other <= api.MaxThreads; other++ {
				if e.Holds(other) != (other == th) {
					t.Errorf("Holds(%d) is %v", other, e.Holds(other))
				}
			}
			if got := e.Decided(); !slices.Equal(got, []int{number}) || e.Clock()%2 != 1 {
				t.Errorf("Decided are %v, not %d", got, number)
			}
			e.Step(th)
		}
		if len(e.Decided()) != 0 || e.Holds(th) || e.Clock() != uint64(2*number+2) {
			t.Errorf("Decided are %v", e.Decided())
		}
	}
}

func TestWhy(t *testing.T) {
	e := made(t, 1)
	begin(t, e, 0, 1)
	e.Kill(0)
	for attempt, want := range map[int]api.Reason{0: api.Killed, 1: api.NoReason, 2: api.NoReason, -1: api.NoReason, math.MinInt: api.NoReason, api.MaxAttempts: api.NoReason, math.MaxInt: api.NoReason} {
		if got := e.Why(attempt); got != want {
			t.Errorf("Why(%d) is %d", attempt, got)
		}
	}
}

// TestValid: as long as nobody has the lock, and the heap has the value of each of its reads, whatever the lock counts.
func TestValid(t *testing.T) {
	e := made(t, 3)
	begin(t, e, 0, 3)
	if !e.Valid(0) || e.Valid(1) || e.Valid(-1) || e.Valid(api.MaxThreads) {
		t.Error("Valid of one that has read nothing, or has no attempt")
	}
	reads2(t, e, 0, 0, 0)
	reads2(t, e, 0, 1, 0)
	takes(t, e, 1, pair(2, two))
	if e.Valid(0) || e.Valid(1) || e.Valid(3) {
		t.Error("somebody has the lock")
	}
	steps(t, e, 1, goesOn, isOver)
	if !e.Valid(0) || !e.Valid(3) {
		t.Error("what it read is as it was")
	}
	writesThrough(t, e, 1, pair(1, api.NegZero))
	if e.Valid(0) || !e.Valid(3) {
		t.Error("the second one of its reads is -0, and was 0")
	}
	writesThrough(t, e, 1, pair(1, 0))
	if !e.Valid(0) {
		t.Error("what it read is as it was, again")
	}
}

// TestNoThread: what is told of threads that there are not, or that have no attempt.
func TestNoThread(t *testing.T) {
	e := made(t, 1)
	begin(t, e, 0)
	for _, th := range []int{math.MinInt, -1, 1, api.MaxThreads - 1, api.MaxThreads, math.MaxInt} {
		tellsNothing(t, e, th)
	}
}

func tellsNothing(t *testing.T, e *Engine, th int) {
	t.Helper()
	if n, ok := e.Attempt(th); n != 0 || ok {
		t.Errorf("Attempt(%d) is %d, %v", th, n, ok)
	}
	if a, ok := e.Asked(th); a != (api.Ask{}) || ok {
		t.Errorf("Asked(%d) is %v, %v", th, a, ok)
	}
	if len(e.Reads(th)) != 0 || len(e.Writes(th)) != 0 || e.Holds(th) || e.Valid(th) {
		t.Errorf("of thread %d something is told", th)
	}
}

func TestNil(t *testing.T) {
	var e *Engine
	for _, th := range []int{math.MinInt, -1, 0, api.MaxThreads, math.MaxInt} {
		if n, errno := e.Begin(th); n != 0 || errno != api.ErrNil {
			t.Errorf("Begin is %d, %d", n, errno)
		}
		for _, a := range append(everyAsk, api.Ask{}, write(-1, notRight)) {
			if errno := e.Ask(th, a); errno != api.ErrNil {
				t.Errorf("Ask is %d", errno)
			}
		}
		if r := e.Step(th); r != (api.Reply{Errno: api.ErrNil}) {
			t.Errorf("Step is %v", r)
		}
		if errno := e.Kill(th); errno != api.ErrNil {
			t.Errorf("Kill is %d", errno)
		}
		if e.Why(th) != api.NoReason {
			t.Errorf("Why is %d", e.Why(th))
		}
		tellsNothing(t, e, th)
	}
	if len(e.Heap())+len(e.Events())+len(e.Order())+len(e.Decided()) != 0 || e.Clock() != 0 || e.Fork() != nil {
		t.Error("nil tells something")
	}
}

// TestFork: what becomes of an engine changes nothing of its Fork, at each place, and the other way round (P4).
func TestFork(t *testing.T) {
	e := made(t, 4)
	begin(t, e, 0, 1)
	reads2(t, e, 0, 0, 0)
	does(t, e, 0, push, isDone)
	does(t, e, 0, write(1, two), isDone)
	does(t, e, 0, merge, isDone)
	does(t, e, 0, write(2, three), isDone)
	writesThrough(t, e, 3, pair(3, two))
	play := func(e *Engine) []api.Reply {
		var l []api.Reply
		e.Ask(1, read(3))
		e.Ask(0, commit)
		for range 12 {
			l = append(l, e.Step(0), e.Step(1))
		}
		e.Begin(2)
		e.Ask(2, write(0, two))
		return append(l, e.Step(2))
	}
	ask(t, e, 0, commit)
	for range 10 {
		f, same := e.Fork(), e.Fork()
		if f == e || !reflect.DeepEqual(f, e) {
			t.Fatalf("Fork is %+v, not %+v", f, e)
		}
		ahead := play(f)
		if !reflect.DeepEqual(e, same) {
			t.Fatal("what became of the Fork changed the engine")
		}
		g := e.Fork()
		behind := play(e)
		if !reflect.DeepEqual(g, same) {
			t.Fatal("what became of the engine changed the Fork")
		}
		if !reflect.DeepEqual(ahead, behind) || !reflect.DeepEqual(e, f) {
			t.Fatalf("the Fork goes on otherwise: %v, not %v", ahead, behind)
		}
		e = same
		steps(t, e, 0, e.Fork().Step(0))
	}
	if len(e.Decided()) != 0 || e.Clock() != 4 {
		t.Error("the commit was not gone through")
	}
}

// TestForkFrames: frames, reads and events that are added to one of the two are not the other one's.
func TestForkFrames(t *testing.T) {
	e := made(t, 4)
	begin(t, e, 0)
	for range 3 {
		reads2(t, e, 0, 0, 0)
	}
	does(t, e, 0, push, isDone)
	f, was := e.Fork(), e.Fork()
	reads2(t, f, 0, 1, 0)
	does(t, f, 0, write(1, two), isDone)
	if !reflect.DeepEqual(e, was) {
		t.Error("the engine is another one")
	}
	does(t, e, 0, write(2, three), isDone)
	reads2(t, e, 0, 3, 0)
	if got := f.Writes(0); !slices.Equal(got, []api.Pair{{Tvar: 1, Val: two}}) {
		t.Errorf("Writes are %v", got)
	}
	if got := f.Reads(0); !slices.Equal(got, []api.Entry{{}, {Tvar: 1}}) {
		t.Errorf("Reads are %v", got)
	}
	want := []api.EventKind{api.Began, api.Read, api.Read, api.Read, api.Pushed, api.Read, api.Wrote}
	if got := kinds(f); !slices.Equal(got, want) {
		t.Errorf("Events are %v", got)
	}
}

// spoil writes over a list, up to its capacity.
func spoil[T any](l []T, by T) {
	l = l[:cap(l)]
	for i := range l {
		l[i] = by
	}
}

// TestListsAreTheCallers: what is handed in is not kept, and what is answered is the caller's (P3).
func TestListsAreTheCallers(t *testing.T) {
	heap := append(make([]api.Val, 0, 8), two, 0, 0)
	e := New(heap)
	spoil(heap, 99)
	if !slices.Equal(e.Heap(), []api.Val{two, 0, 0}) {
		t.Errorf("the heap is %v", e.Heap())
	}
	begin(t, e, 0, 1)
	reads2(t, e, 0, 0, two)
	reads2(t, e, 0, 1, 0)
	writesAll(t, e, 0, pair(1, three), pair(2, three))
	does(t, e, 1, write(0, three), isDone)
	does(t, e, 0, commit, goesOn, goesOn)
	if len(e.Decided()) != 1 {
		t.Fatal("it is not decided")
	}
	stays(t, e, "what was answered", func() {
		for range 2 {
			spoil(e.Heap(), 99)
			spoil(e.Events(), api.Event{Kind: 99})
			spoil(e.Order(), 99)
			spoil(e.Decided(), 99)
			spoil(e.Reads(0), api.Entry{Tvar: 99})
			spoil(e.Writes(0), api.Pair{Tvar: 99})
		}
	})
	given := append(make([]api.Val, 0, 4), 0, 1)
	f := New(given[:1])
	writesThrough(t, f, 0, pair(0, two))
	if !slices.Equal(given, []api.Val{0, 1}) {
		t.Error("what was handed in was written")
	}
}

// TestApart: two engines share nothing (P6).
func TestApart(t *testing.T) {
	e := made(t, 2)
	writesThrough(t, e, 0, pair(0, two))
	other := made(t, 2)
	if n, _ := other.Begin(3); n != 0 || other.Clock() != 0 || !slices.Equal(other.Heap(), make([]api.Val, 2)) || len(other.Events()) != 1 {
		t.Error("they share something")
	}
}

// TestExample: the chapter's.
func TestExample(t *testing.T) {
	e := made(t, 2)
	begin(t, e, 0)
	does(t, e, 0, read(1), goesOn, hasRead(0))
	does(t, e, 0, commit, isOver)
}

// TestValuesAsTheyAre: values come through with all their bits.
func TestValuesAsTheyAre(t *testing.T) {
	for _, v := range []api.Val{0, api.NegZero, api.NaN, api.Infinity, 1, two | api.NegZero} {
		e := made(t, 1)
		writesThrough(t, e, 0, pair(0, v))
		begin(t, e, 1)
		reads2(t, e, 1, 0, v)
		if e.Heap()[0] != v || e.Reads(1)[0].Val != v {
			t.Errorf("%x is %x", v, e.Heap()[0])
		}
	}
}
