package tl2

import (
	"math"
	"reflect"
	"slices"
	"testing"
	"unsafe"

	"rowlock/api"
	"rowlock/value"
)

// Values that tests read and write: two and three, and bits of what is no number, which are not right.
const (
	two      api.Val = 0x4000000000000000
	three    api.Val = 0x4008000000000000
	notRight api.Val = 0x7ff8000000000001
)

// Replies that need no more words.
var (
	goesOn = api.Reply{}
	isDone = api.Reply{Done: true}
	isOver = api.Reply{Done: true, Ended: true}
)

func hasRead(v api.Val) api.Reply { return api.Reply{Done: true, Val: v} }

func endsBy(why api.Reason) api.Reply { return api.Reply{Done: true, Ended: true, Reason: why} }

func isBusy(owner int) api.Reply { return api.Reply{Busy: true, Owner: owner} }

// Asks.
var (
	push     = api.Ask{Kind: api.PushIt}
	drop     = api.Ask{Kind: api.DropIt}
	merge    = api.Ask{Kind: api.MergeIt}
	commit   = api.Ask{Kind: api.CommitIt}
	abort    = api.Ask{Kind: api.AbortIt}
	everyAsk = []api.Ask{read(0), write(0, two), push, drop, merge, commit, abort}
)

func read(tvar int) api.Ask { return api.Ask{Kind: api.ReadIt, Tvar: tvar} }

func write(tvar int, v api.Val) api.Ask { return api.Ask{Kind: api.WriteIt, Tvar: tvar, Val: v} }

// made is an engine over n values, all 0.
func made(t *testing.T, n, stripes int) *Engine {
	t.Helper()
	e := New(make([]api.Val, n), stripes)
	if e == nil {
		t.Fatalf("New of %d values and %d stripes is nil", n, stripes)
	}
	return e
}

// begin begins attempts of threads.
func begin(t *testing.T, e *Engine, threads ...int) {
	t.Helper()
	for _, th := range threads {
		if _, errno := e.Begin(th); errno != api.OK {
			t.Fatalf("Begin(%d): %d", th, errno)
		}
	}
}

func ask(t *testing.T, e *Engine, th int, a api.Ask) {
	t.Helper()
	if errno := e.Ask(th, a); errno != api.OK {
		t.Fatalf("Ask(%d, %v): %d", th, a, errno)
	}
}

// steps holds the steps of a thread against what they should answer.
func steps(t *testing.T, e *Engine, th int, want ...api.Reply) {
	t.Helper()
	for i, w := range want {
		if got := e.Step(th); got != w {
			t.Fatalf("step %d of thread %d: %+v, not %+v", i, th, got, w)
		}
	}
}

// does asks for something, and holds all steps of it against what they should answer.
func does(t *testing.T, e *Engine, th int, a api.Ask, want ...api.Reply) {
	t.Helper()
	ask(t, e, th, a)
	steps(t, e, th, want...)
}

// reads3 reads a variable by its three steps.
func reads3(t *testing.T, e *Engine, th, tvar int, v api.Val) {
	t.Helper()
	does(t, e, th, read(tvar), goesOn, goesOn, hasRead(v))
}

// commits writes and commits, by a thread that has an attempt, whatever number of steps that takes.
func commits(t *testing.T, e *Engine, th int, pairs ...api.Pair) {
	t.Helper()
	for _, p := range pairs {
		does(t, e, th, write(p.Tvar, p.Val), isDone)
	}
	ask(t, e, th, commit)
	for range 100 {
		r := e.Step(th)
		if r == isOver {
			return
		}
		if r != goesOn {
			t.Fatalf("commit of thread %d: %+v", th, r)
		}
	}
	t.Fatalf("commit of thread %d has no end", th)
}

// kinds are those of the events of an engine.
func kinds(e *Engine) []api.EventKind {
	var l []api.EventKind
	for _, ev := range e.Events() {
		l = append(l, ev.Kind)
	}
	return l
}

// words are those of all stripes.
func words(e *Engine) []uint64 {
	var l []uint64
	for s := range e.table.Size() {
		w, _ := e.table.Word(s)
		l = append(l, w)
	}
	return l
}

// stays tells whether work changes nothing of an engine.
func stays(t *testing.T, e *Engine, name string, work func()) {
	t.Helper()
	was := e.Fork()
	work()
	if !reflect.DeepEqual(was, e) {
		t.Errorf("%s changed something: %+v, not %+v", name, e, was)
	}
}

// setClock sets the clock of an engine's stripes: nobody ticks so often.
func setClock(e *Engine, now uint64) {
	f := reflect.ValueOf(e.table).Elem().FieldByName("now")
	*(*uint64)(unsafe.Pointer(f.UnsafeAddr())) = now
}

func TestNew(t *testing.T) {
	for n, want := range map[int]bool{0: false, 1: true, 2: true, api.MaxTvars: true, api.MaxTvars + 1: false, 1000: false} {
		for stripes, may := range map[int]bool{math.MinInt: false, -1: false, 0: false, 1: true, 2: true, api.MaxStripes: true, api.MaxStripes + 1: false, math.MaxInt: false} {
			e := New(make([]api.Val, n), stripes)
			if (e != nil) != (want && may) {
				t.Errorf("New of %d values and %d stripes: %v", n, stripes, e)
			}
			if e != nil && (len(e.Heap()) != n || len(e.Events()) != 0 || len(e.Order()) != 0 || e.Clock() != 0) {
				t.Errorf("New of %d values and %d stripes: %v", n, stripes, e)
			}
		}
	}
	if New(nil, 1) != nil {
		t.Error("New of no heap")
	}
	right := []api.Val{0, api.NegZero, api.NaN, api.Infinity, api.Infinity | api.NegZero, 1, two}
	if e := New(right, 3); e == nil || !slices.Equal(e.Heap(), right) {
		t.Errorf("New of %v: %v", right, e)
	}
	for i := range right {
		for _, v := range []api.Val{notRight, api.NaN | api.NegZero, api.Infinity + 1, math.MaxUint64} {
			wrong := slices.Clone(right)
			wrong[i] = v
			if New(wrong, 3) != nil {
				t.Errorf("New of %v", wrong)
			}
		}
	}
}

func TestBegin(t *testing.T) {
	e := made(t, 2, 2)
	for _, th := range []int{math.MinInt, -1, api.MaxThreads, math.MaxInt} {
		stays(t, e, "Begin of no thread", func() {
			if n, errno := e.Begin(th); n != 0 || errno != api.ErrRange {
				t.Errorf("Begin(%d) is %d, %d", th, n, errno)
			}
		})
	}
	for want, th := range []int{0, api.MaxThreads - 1, 1} {
		if n, errno := e.Begin(th); n != want || errno != api.OK {
			t.Errorf("Begin(%d) is %d, %d", th, n, errno)
		}
		if n, ok := e.Attempt(th); n != want || !ok {
			t.Errorf("Attempt(%d) is %d, %v", th, n, ok)
		}
		stays(t, e, "Begin of one that has an attempt", func() {
			if n, errno := e.Begin(th); n != 0 || errno != api.ErrState {
				t.Errorf("Begin(%d) is %d, %d", th, n, errno)
			}
		})
	}
	if n, ok := e.Attempt(2); n != 0 || ok {
		t.Errorf("Attempt(2) is %d, %v", n, ok)
	}
	if want := []api.Event{{Kind: api.Began}, {Kind: api.Began, Attempt: 1}, {Kind: api.Began, Attempt: 2}}; !slices.Equal(e.Events(), want) {
		t.Errorf("Events are %v", e.Events())
	}
}

// TestMaxAttempts: MaxAttempts begin, and no more; that a thread has an attempt is told first.
func TestMaxAttempts(t *testing.T) {
	e := made(t, 1, 1)
	for want := range api.MaxAttempts {
		th := want % 2
		if n, errno := e.Begin(th); n != want || errno != api.OK {
			t.Fatalf("Begin is %d, %d, not %d", n, errno, want)
		}
		if want < api.MaxAttempts-1 {
			e.Kill(th)
		}
	}
	stays(t, e, "Begin of too many", func() {
		for th, want := range map[int]api.Errno{-1: api.ErrRange, 0: api.ErrSpace, 1: api.ErrState, 2: api.ErrSpace, api.MaxThreads: api.ErrRange} {
			if n, errno := e.Begin(th); n != 0 || errno != want {
				t.Errorf("Begin(%d) is %d, %d", th, n, errno)
			}
		}
	})
	e.Kill(1)
	if _, errno := e.Begin(1); errno != api.ErrSpace {
		t.Errorf("Begin is %d", errno)
	}
	if len(e.Order()) != api.MaxAttempts {
		t.Errorf("Order is %v", e.Order())
	}
}

// TestAskErrors: which error is told, the first one of those that apply.
func TestAskErrors(t *testing.T) {
	e := made(t, 3, 2)
	refuses := func(th int, a api.Ask, want api.Errno) {
		t.Helper()
		stays(t, e, "Ask that is refused", func() {
			if errno := e.Ask(th, a); errno != want {
				t.Errorf("Ask(%d, %v) is %d, not %d", th, a, errno, want)
			}
		})
	}
	wrong := []api.Ask{{}, {Kind: api.AbortIt + 1}, {Kind: 255}, read(-1), read(3), read(math.MaxInt), write(3, 0), write(-1, notRight), write(3, notRight), write(math.MinInt, 0)}
	begin(t, e, 1, 3)
	ask(t, e, 3, read(0))
	for _, a := range slices.Concat(everyAsk, wrong, []api.Ask{write(0, notRight)}) {
		for _, th := range []int{math.MinInt, -1, api.MaxThreads, math.MaxInt} {
			refuses(th, a, api.ErrRange)
		}
		refuses(0, a, api.ErrState)
		refuses(3, a, api.ErrBusy)
	}
	for _, a := range wrong {
		refuses(1, a, api.ErrRange)
	}
	for _, v := range []api.Val{notRight, math.MaxUint64, api.NaN | api.NegZero} {
		refuses(1, write(0, v), api.ErrForm)
		refuses(1, write(2, v), api.ErrForm)
	}
	refuses(1, drop, api.ErrState)
	refuses(1, merge, api.ErrState)
	for range api.MaxDepth {
		does(t, e, 1, push, isDone)
		refuses(1, commit, api.ErrState)
	}
	refuses(1, push, api.ErrSpace)
}

// TestAskEach: each kind can be asked for, at the edges of what it may name.
func TestAskEach(t *testing.T) {
	for _, a := range []api.Ask{read(0), read(2), {Kind: api.ReadIt, Tvar: 1, Val: notRight}, write(0, two), write(2, api.NaN), write(1, api.NegZero),
		push, drop, merge, abort, {Kind: api.PushIt, Tvar: -7, Val: notRight}, {Kind: api.AbortIt, Tvar: 99}} {
		e := made(t, 3, 2)
		begin(t, e, 2)
		does(t, e, 2, push, isDone)
		if got, ok := e.Asked(2); got != (api.Ask{}) || ok {
			t.Errorf("Asked is %v, %v", got, ok)
		}
		events := e.Events()
		ask(t, e, 2, a)
		if got, ok := e.Asked(2); got != a || !ok {
			t.Errorf("Asked is %v, %v, not %v", got, ok, a)
		}
		if !slices.Equal(e.Events(), events) {
			t.Errorf("Ask of %v is an event", a)
		}
		if _, ok := e.Asked(1); ok {
			t.Error("Asked of another thread")
		}
	}
	e := made(t, 1, 1)
	begin(t, e, 0)
	ask(t, e, 0, commit)
	if got, ok := e.Asked(0); got != commit || !ok {
		t.Errorf("Asked is %v, %v", got, ok)
	}
}

func TestStepErrors(t *testing.T) {
	e := made(t, 1, 1)
	begin(t, e, 1)
	does(t, e, 1, write(0, two), isDone)
	stays(t, e, "Step that is refused", func() {
		for th, want := range map[int]api.Errno{math.MinInt: api.ErrRange, -1: api.ErrRange, 0: api.ErrState, 1: api.ErrState, 3: api.ErrState, api.MaxThreads: api.ErrRange, math.MaxInt: api.ErrRange} {
			steps(t, e, th, api.Reply{Errno: want})
		}
	})
}

func TestAbortIt(t *testing.T) {
	e := made(t, 1, 1)
	begin(t, e, 0, 1)
	does(t, e, 1, push, isDone)
	does(t, e, 1, write(0, two), isDone)
	does(t, e, 1, abort, endsBy(api.Asked))
	if want := (api.Event{Kind: api.Aborted, Attempt: 1}); e.Events()[4] != want || len(e.Events()) != 5 {
		t.Errorf("Events are %v", e.Events())
	}
	if e.Why(1) != api.Asked || e.Why(0) != api.NoReason || e.Heap()[0] != 0 {
		t.Error(e.Why(1), e.Why(0), e.Heap())
	}
	if _, ok := e.Attempt(1); ok || e.Ask(1, read(0)) != api.ErrState || e.Step(1).Errno != api.ErrState || len(e.Writes(1)) != 0 {
		t.Error("it has an attempt still")
	}
	if n, errno := e.Begin(1); n != 2 || errno != api.OK || len(e.Writes(1)) != 0 {
		t.Error(n, errno, e.Writes(1))
	}
	does(t, e, 1, commit, isOver)
}

// TestFrames: frames are dropped and merged as writes has it.
func TestFrames(t *testing.T) {
	e := made(t, 3, 2)
	begin(t, e, 0)
	has := func(want ...api.Pair) {
		t.Helper()
		if got := e.Writes(0); !slices.Equal(got, want) {
			t.Errorf("Writes are %v, not %v", got, want)
		}
	}
	has()
	does(t, e, 0, write(1, two), isDone)
	does(t, e, 0, push, isDone)
	does(t, e, 0, write(1, three), isDone)
	does(t, e, 0, write(0, three), isDone)
	has(api.Pair{Tvar: 0, Val: three}, api.Pair{Tvar: 1, Val: three})
	does(t, e, 0, drop, isDone)
	has(api.Pair{Tvar: 1, Val: two})
	does(t, e, 0, push, isDone)
	does(t, e, 0, write(2, api.NaN), isDone)
	does(t, e, 0, merge, isDone)
	has(api.Pair{Tvar: 1, Val: two}, api.Pair{Tvar: 2, Val: api.NaN})
	want := []api.Event{{Kind: api.Began}, {Kind: api.Wrote, Tvar: 1, Val: two}, {Kind: api.Pushed}, {Kind: api.Wrote, Tvar: 1, Val: three}, {Kind: api.Wrote, Val: three},
		{Kind: api.Dropped}, {Kind: api.Pushed}, {Kind: api.Wrote, Tvar: 2, Val: api.NaN}, {Kind: api.Merged}}
	if !slices.Equal(e.Events(), want) {
		t.Errorf("Events are %v", e.Events())
	}
	if !slices.Equal(e.Heap(), make([]api.Val, 3)) {
		t.Errorf("the heap is %v", e.Heap())
	}
}

// TestMaxWrites: what would be one value more than MaxWrites ends the attempt by Full; one that is there already does not.
func TestMaxWrites(t *testing.T) {
	e := made(t, api.MaxTvars, 3)
	begin(t, e, 0)
	for tvar := range api.MaxTvars {
		does(t, e, 0, write(tvar, two), isDone)
	}
	does(t, e, 0, push, isDone)
	for tvar := range api.MaxWrites - api.MaxTvars {
		does(t, e, 0, write(tvar, three), isDone)
	}
	does(t, e, 0, write(0, two), isDone)
	events := len(e.Events())
	ask(t, e, 0, write(api.MaxTvars-1, three))
	steps(t, e, 0, endsBy(api.Full))
	if got := e.Events()[events:]; !slices.Equal(got, []api.Event{{Kind: api.Aborted}}) || e.Why(0) != api.Full {
		t.Errorf("Events are %v, Why is %d", got, e.Why(0))
	}
	if _, ok := e.Attempt(0); ok || !slices.Equal(e.Heap(), make([]api.Val, api.MaxTvars)) {
		t.Error("it goes on")
	}
}

func TestReadIt(t *testing.T) {
	e := New([]api.Val{two, api.NegZero, three}, 3)
	begin(t, e, 3)
	ask(t, e, 3, read(1))
	for range 2 {
		steps(t, e, 3, goesOn)
		if got, ok := e.Asked(3); got != read(1) || !ok || len(e.Reads(3)) != 0 || len(e.Events()) != 1 {
			t.Errorf("%v, %v, %v, %v", got, ok, e.Reads(3), e.Events())
		}
	}
	steps(t, e, 3, hasRead(api.NegZero))
	if _, ok := e.Asked(3); ok || !slices.Equal(e.Reads(3), []api.Entry{{Tvar: 1, Val: api.NegZero}}) {
		t.Errorf("Reads are %v", e.Reads(3))
	}
	reads3(t, e, 3, 0, two)
	reads3(t, e, 3, 1, api.NegZero)
	if want := []api.Entry{{Tvar: 1, Val: api.NegZero}, {Tvar: 0, Val: two}}; !slices.Equal(e.Reads(3), want) {
		t.Errorf("Reads are %v", e.Reads(3))
	}
	want := []api.Event{{Kind: api.Began}, {Kind: api.Read, Tvar: 1, Val: api.NegZero}, {Kind: api.Read, Val: two}, {Kind: api.Read, Tvar: 1, Val: api.NegZero}}
	if !slices.Equal(e.Events(), want) || !e.Valid(3) {
		t.Errorf("Events are %v", e.Events())
	}
	does(t, e, 3, commit, isOver)
}

// TestReadOwn: of its own log it reads by one step, whatever others have; nothing is among its reads.
func TestReadOwn(t *testing.T) {
	e := made(t, 2, 1)
	begin(t, e, 0, 1)
	does(t, e, 0, write(1, two), isDone)
	does(t, e, 1, write(0, three), isDone)
	does(t, e, 1, commit, goesOn, goesOn)
	does(t, e, 0, read(1), hasRead(two))
	does(t, e, 0, push, isDone)
	does(t, e, 0, read(1), hasRead(two))
	does(t, e, 0, write(1, three), isDone)
	does(t, e, 0, read(1), hasRead(three))
	does(t, e, 0, drop, isDone)
	does(t, e, 0, read(1), hasRead(two))
	if want := (api.Event{Kind: api.Read, Tvar: 1, Val: two}); e.Events()[len(e.Events())-1] != want || len(e.Reads(0)) != 0 {
		t.Errorf("Events are %v, Reads are %v", e.Events(), e.Reads(0))
	}
	does(t, e, 0, push, isDone)
	does(t, e, 0, write(0, three), isDone)
	does(t, e, 0, drop, isDone)
	does(t, e, 0, read(0), isBusy(1))
}

// TestReadBusy: as long as another thread has the stripe, also for another variable of it, nothing changes.
func TestReadBusy(t *testing.T) {
	e := made(t, 3, 2) // variables 0 and 2 are of one stripe
	begin(t, e, 0, 2)
	does(t, e, 2, write(0, two), isDone)
	does(t, e, 2, commit, goesOn, goesOn)
	for _, tvar := range []int{0, 2} {
		f := e.Fork()
		ask(t, f, 0, read(tvar))
		stays(t, f, "a busy step", func() { steps(t, f, 0, isBusy(2), isBusy(2)) })
		if f.Kill(2) != api.OK {
			t.Error("Kill")
		}
		steps(t, f, 0, goesOn, goesOn, hasRead(0))
	}
	reads3(t, e, 0, 1, 0)
	ask(t, e, 0, read(2))
	steps(t, e, 0, isBusy(2))
	steps(t, e, 2, goesOn, goesOn, goesOn, isOver)
	steps(t, e, 0, endsBy(api.Changed))
	if e.Why(0) != api.Changed || e.Why(1) != api.NoReason {
		t.Error(e.Why(0), e.Why(1))
	}
}

// TestReadVersions: a stripe whose version is above RV ends it by Changed, at RV it does not.
func TestReadVersions(t *testing.T) {
	e := made(t, 3, 2)
	begin(t, e, 0, 1)
	commits(t, e, 1, api.Pair{Tvar: 0, Val: two})
	begin(t, e, 2)
	reads3(t, e, 2, 0, two)
	reads3(t, e, 2, 2, 0)
	reads3(t, e, 2, 1, 0)
	if want := []api.Entry{{Tvar: 0, Val: two, Version: 1}, {Tvar: 2, Version: 1}, {Tvar: 1}}; !slices.Equal(e.Reads(2), want) {
		t.Errorf("Reads are %v", e.Reads(2))
	}
	reads3(t, e, 0, 1, 0)
	does(t, e, 0, read(2), endsBy(api.Changed))
	if got := e.Events()[len(e.Events())-1]; got != (api.Event{Kind: api.Aborted}) {
		t.Errorf("the last event is %v", got)
	}
}

// TestReadOtherWord: a word that is another one at place 2 ends it by Changed; what is as it was again does not.
func TestReadOtherWord(t *testing.T) {
	e := made(t, 3, 2)
	begin(t, e, 0, 1)
	does(t, e, 1, write(2, two), isDone)
	ask(t, e, 0, read(0))
	ask(t, e, 1, commit)
	for place := range 2 {
		early := e.Fork()
		steps(t, early, 1, goesOn, goesOn) // it has the stripe
		if place > 0 {
			locked := early.Fork()
			steps(t, locked, 0, goesOn, endsBy(api.Changed))
			freed := early.Fork()
			freed.Kill(1)
			steps(t, freed, 0, goesOn, hasRead(0))
			steps(t, early, 1, goesOn, goesOn, goesOn, isOver)
			steps(t, early, 0, goesOn, endsBy(api.Changed))
			if early.Why(0) != api.Changed || len(early.Reads(0)) != 0 || slices.Contains(kinds(early), api.Read) {
				t.Error(early.Why(0), early.Reads(0), early.Events())
			}
		}
		steps(t, e, 0, goesOn)
	}
	late := e.Fork()
	steps(t, late, 1, goesOn, goesOn, goesOn, goesOn, goesOn, isOver)
	steps(t, late, 0, endsBy(api.Changed))
	steps(t, e, 0, hasRead(0))
}

// TestMaxReads: one variable more than MaxReads ends it by Full; one that it has read does not, nor one of its own log.
func TestMaxReads(t *testing.T) {
	e := made(t, api.MaxTvars, 5)
	begin(t, e, 1)
	for tvar := range api.MaxReads {
		reads3(t, e, 1, tvar, 0)
	}
	reads3(t, e, 1, 0, 0)
	does(t, e, 1, write(api.MaxReads, two), isDone)
	does(t, e, 1, read(api.MaxReads), hasRead(two))
	events := len(e.Events())
	does(t, e, 1, read(api.MaxReads+1), goesOn, goesOn, endsBy(api.Full))
	if got := kinds(e)[events:]; !slices.Equal(got, []api.EventKind{api.Aborted}) || e.Why(0) != api.Full {
		t.Errorf("Events are %v, Why is %d", got, e.Why(0))
	}
}

func TestMaxDepth(t *testing.T) {
	e := made(t, 1, 1)
	begin(t, e, 0)
	for range api.MaxDepth {
		does(t, e, 0, push, isDone)
	}
	if e.Ask(0, push) != api.ErrSpace {
		t.Error("one frame more")
	}
	for range api.MaxDepth {
		does(t, e, 0, merge, isDone)
	}
	if e.Ask(0, merge) != api.ErrState || e.Ask(0, drop) != api.ErrState {
		t.Error("no frame")
	}
	does(t, e, 0, commit, isOver)
}

// TestCommitWithoutWrites: one step, that asks for no lock, and lets the clock stand; also if what it read is another one by now.
func TestCommitWithoutWrites(t *testing.T) {
	e := made(t, 2, 2)
	begin(t, e, 0, 1)
	reads3(t, e, 0, 0, 0)
	commits(t, e, 1, api.Pair{Tvar: 0, Val: two})
	if e.Valid(0) {
		t.Error("what it read is another one")
	}
	does(t, e, 0, push, isDone)
	does(t, e, 0, write(1, two), isDone)
	does(t, e, 0, drop, isDone)
	does(t, e, 0, commit, isOver)
	if got := kinds(e)[len(e.Events())-2:]; !slices.Equal(got, []api.EventKind{api.Tried, api.Committed}) || e.Clock() != 1 || e.Why(0) != api.NoReason {
		t.Errorf("%v, %d, %d", got, e.Clock(), e.Why(0))
	}
	if !slices.Equal(e.Order(), []int{0, 1}) || e.Heap()[1] != 0 {
		t.Errorf("Order is %v", e.Order())
	}
	if _, ok := e.Attempt(0); ok {
		t.Error("it has an attempt still")
	}
}

// glance is what all can see of an engine whose thread 0 commits attempt 1, while thread 1 has attempt 0.
type glance struct {
	events                int
	heap                  []api.Val
	order, decided        []int
	holds, valid, other   bool
	asked                 bool
	clock                 uint64
	held                  []int
	reads, writes, killed int
}

func glanceAt(e *Engine) glance {
	_, asked := e.Asked(0)
	g := glance{events: len(e.Events()), heap: e.Heap(), order: e.Order(), decided: e.Decided(), holds: e.Holds(0), valid: e.Valid(0), other: e.Valid(1),
		asked: asked, clock: e.Clock(), held: e.table.Held(0), reads: len(e.Reads(0)), writes: len(e.Writes(0))}
	f := e.Fork()
	g.killed = int(f.Kill(0))
	return g
}

// TestCommitPlaces: a commit with reads and with writes on several stripes, step by step, and all that can be seen at each place.
func TestCommitPlaces(t *testing.T) {
	e := made(t, 4, 4) // the stripes of 0 to 3 are 3, 0, 1, 2
	begin(t, e, 1, 0)
	reads3(t, e, 1, 0, 0)
	reads3(t, e, 0, 0, 0)
	reads3(t, e, 0, 3, 0)
	does(t, e, 0, write(0, two), isDone)
	does(t, e, 0, write(2, three), isDone)
	ask(t, e, 0, commit)
	none := []api.Val{0, 0, 0, 0}
	half := []api.Val{two, 0, 0, 0}
	full := []api.Val{two, 0, three, 0}
	first, state := []int{0, 1}, int(api.ErrState)
	rows := []struct {
		reply api.Reply
		want  glance
	}{
		{goesOn, glance{7, none, first, nil, false, true, true, true, 0, nil, 2, 2, 0}},                  // asked for
		{goesOn, glance{8, none, first, nil, false, true, true, true, 0, nil, 2, 2, 0}},                  // Tried
		{goesOn, glance{8, none, first, nil, true, true, true, true, 0, []int{1}, 2, 2, 0}},              // a stripe
		{goesOn, glance{8, none, first, nil, true, true, false, true, 0, []int{1, 3}, 2, 2, 0}},          // another one
		{goesOn, glance{8, none, first, nil, true, true, false, true, 1, []int{1, 3}, 2, 2, 0}},          // WV
		{goesOn, glance{8, none, first, nil, true, true, false, true, 1, []int{1, 3}, 2, 2, 0}},          // a read
		{goesOn, glance{8, none, first, nil, true, true, false, true, 1, []int{1, 3}, 2, 2, 0}},          // another one
		{goesOn, glance{8, none, first, []int{1}, true, true, false, true, 1, []int{1, 3}, 2, 2, state}}, // decided
		{goesOn, glance{8, half, first, []int{1}, true, true, false, true, 1, []int{1, 3}, 2, 2, state}}, // a write
		{goesOn, glance{8, full, first, []int{1}, true, true, false, true, 1, []int{1, 3}, 2, 2, state}}, // another one
		{goesOn, glance{8, full, first, []int{1}, true, true, false, true, 1, []int{3}, 2, 2, state}},    // a stripe is free
		{isOver, glance{9, full, first, nil, false, false, false, false, 1, nil, 0, 0, state}},           // all are
	}
	for i, r := range rows {
		if i > 0 {
			steps(t, e, 0, r.reply)
		}
		if got := glanceAt(e); !reflect.DeepEqual(got, r.want) {
			t.Errorf("behind step %d: %+v, not %+v", i, got, r.want)
		}
	}
	if got := kinds(e)[7:]; !slices.Equal(got, []api.EventKind{api.Tried, api.Committed}) || e.Why(1) != api.NoReason {
		t.Errorf("Events are %v", got)
	}
	if !slices.Equal(words(e), []uint64{0, 32, 0, 32}) {
		t.Errorf("words are %v", words(e))
	}
}

// TestCommitOneStripe: writes on one stripe take one lock, and stand in the heap rising, one a step.
func TestCommitOneStripe(t *testing.T) {
	e := made(t, 3, 1)
	begin(t, e, 0)
	for _, tvar := range []int{2, 0, 1} {
		does(t, e, 0, write(tvar, two), isDone)
	}
	does(t, e, 0, commit, goesOn, goesOn, goesOn, goesOn)
	for n := range 3 {
		steps(t, e, 0, goesOn)
		want := make([]api.Val, 3)
		for i := range n + 1 {
			want[i] = two
		}
		if !slices.Equal(e.Heap(), want) {
			t.Errorf("the heap is %v, not %v", e.Heap(), want)
		}
	}
	steps(t, e, 0, isOver)
}

// TestLocksRise: stripes are locked, and unlocked, rising, whatever the order of the writes.
func TestLocksRise(t *testing.T) {
	e := made(t, 4, 4)
	begin(t, e, 2)
	for _, tvar := range []int{0, 3, 1, 2} {
		does(t, e, 2, write(tvar, two), isDone)
	}
	ask(t, e, 2, commit)
	steps(t, e, 2, goesOn)
	for n := range 4 {
		steps(t, e, 2, goesOn)
		if got := e.table.Held(2); !slices.Equal(got, []int{0, 1, 2, 3}[:n+1]) {
			t.Errorf("it has %v", got)
		}
	}
	steps(t, e, 2, goesOn, goesOn, goesOn, goesOn, goesOn, goesOn)
	for n := range 3 {
		steps(t, e, 2, goesOn)
		if got := e.table.Held(2); !slices.Equal(got, []int{1, 2, 3}[n:]) {
			t.Errorf("it has %v", got)
		}
	}
	steps(t, e, 2, isOver)
}

// TestCommitBusy: a stripe that another thread has is waited for, with those that it has already.
func TestCommitBusy(t *testing.T) {
	e := made(t, 4, 4)
	begin(t, e, 0, 3)
	does(t, e, 0, write(2, two), isDone) // stripe 1
	does(t, e, 3, write(1, two), isDone) // stripe 0
	does(t, e, 3, write(2, three), isDone)
	does(t, e, 3, write(3, two), isDone) // stripe 2
	does(t, e, 0, commit, goesOn, goesOn)
	does(t, e, 3, commit, goesOn, goesOn)
	stays(t, e, "a busy step", func() { steps(t, e, 3, isBusy(0), isBusy(0)) })
	if !e.Holds(3) || !slices.Equal(e.table.Held(3), []int{0}) {
		t.Error("it has let go")
	}
	steps(t, e, 0, goesOn, goesOn, goesOn, isOver)
	steps(t, e, 3, goesOn, goesOn, goesOn, goesOn, goesOn, goesOn, goesOn, goesOn, goesOn, isOver)
	if !slices.Equal(e.Heap(), []api.Val{0, two, three, two}) || e.Clock() != 2 || !slices.Equal(words(e), []uint64{64, 64, 64, 0}) {
		t.Errorf("%v, %d, %v", e.Heap(), e.Clock(), words(e))
	}
}

// TestCommitChanged: reads that do not pass end it by Changed at the step that looks at them, and all stripes are as they were.
func TestCommitChanged(t *testing.T) {
	e := made(t, 4, 4)
	begin(t, e, 0, 1)
	reads3(t, e, 0, 0, 0)
	reads3(t, e, 0, 1, 0)
	does(t, e, 0, write(2, two), isDone)
	does(t, e, 0, write(3, two), isDone)
	does(t, e, 1, write(1, three), isDone)
	held := e.Fork()
	// The other one has the stripe of the second read.
	does(t, held, 1, commit, goesOn, goesOn)
	does(t, held, 0, commit, goesOn, goesOn, goesOn, goesOn, goesOn, endsBy(api.Changed))
	if held.Holds(0) || !held.Holds(1) || !slices.Equal(words(held), []uint64{3, 0, 0, 0}) || held.Why(0) != api.Changed {
		t.Errorf("words are %v", words(held))
	}
	// The other one has written it.
	does(t, e, 1, commit, goesOn, goesOn, goesOn, goesOn, goesOn, isOver)
	does(t, e, 0, commit, goesOn, goesOn, goesOn, goesOn, goesOn, endsBy(api.Changed))
	if e.Holds(0) || !slices.Equal(words(e), []uint64{32, 0, 0, 0}) || e.Clock() != 2 || !slices.Equal(e.Heap(), []api.Val{0, three, 0, 0}) {
		t.Errorf("words are %v, the heap is %v", words(e), e.Heap())
	}
	if got := kinds(e)[len(e.Events())-2:]; !slices.Equal(got, []api.EventKind{api.Tried, api.Aborted}) || len(e.Decided()) != 0 {
		t.Errorf("Events are %v", got)
	}
	if !slices.Equal(e.Order(), []int{0, 1}) {
		t.Errorf("Order is %v", e.Order())
	}
}

// TestCommitOwnStripe: what it read of a stripe that it has itself passes, unless the version is above RV.
func TestCommitOwnStripe(t *testing.T) {
	e := made(t, 3, 2)
	begin(t, e, 0)
	reads3(t, e, 0, 2, 0)
	does(t, e, 0, write(0, two), isDone)
	late := e.Fork()
	does(t, e, 0, commit, goesOn, goesOn, goesOn, goesOn, goesOn, goesOn, isOver)
	begin(t, late, 1)
	commits(t, late, 1, api.Pair{Tvar: 0, Val: three})
	does(t, late, 0, commit, goesOn, goesOn, goesOn)
	if late.Valid(0) {
		t.Error("it is valid")
	}
	steps(t, late, 0, endsBy(api.Changed))
	if !slices.Equal(words(late), []uint64{0, 32}) {
		t.Errorf("words are %v", words(late))
	}
}

// TestClockEnd: at MaxVersion a commit with writes ends by Full, with all stripes as they were; one version ahead of it there is one more.
func TestClockEnd(t *testing.T) {
	e := made(t, 2, 2)
	setClock(e, api.MaxVersion-1)
	begin(t, e, 0, 1)
	reads3(t, e, 1, 1, 0)
	commits(t, e, 0, api.Pair{Tvar: 0, Val: two})
	if e.Clock() != api.MaxVersion || e.table.Version(1) != api.MaxVersion {
		t.Errorf("the clock is %d", e.Clock())
	}
	begin(t, e, 2)
	reads3(t, e, 2, 0, two)
	does(t, e, 2, write(0, three), isDone)
	does(t, e, 2, write(1, three), isDone)
	was := words(e)
	does(t, e, 2, commit, goesOn, goesOn, goesOn, endsBy(api.Full))
	if e.Why(2) != api.Full || e.Clock() != api.MaxVersion || !slices.Equal(words(e), was) || !slices.Equal(e.Heap(), []api.Val{two, 0}) {
		t.Errorf("%d, %d, %v, %v", e.Why(2), e.Clock(), words(e), e.Heap())
	}
	if !slices.Equal(e.Order(), []int{1, 0, 2}) {
		t.Errorf("Order is %v", e.Order())
	}
}

// TestKillErrors: who has no attempt can't be killed.
func TestKillErrors(t *testing.T) {
	e := made(t, 1, 1)
	begin(t, e, 1)
	stays(t, e, "Kill that is refused", func() {
		for th, want := range map[int]api.Errno{math.MinInt: api.ErrRange, -1: api.ErrRange, 0: api.ErrState, 3: api.ErrState, api.MaxThreads: api.ErrRange, math.MaxInt: api.ErrRange} {
			if errno := e.Kill(th); errno != want {
				t.Errorf("Kill(%d) is %d", th, errno)
			}
		}
	})
	if e.Kill(1) != api.OK || e.Kill(1) != api.ErrState {
		t.Error("Kill")
	}
	does(t, e, begunAgain(t, e, 1), commit, isOver)
	if e.Kill(1) != api.ErrState || e.Why(1) != api.NoReason || e.Why(0) != api.Killed {
		t.Error("Kill of one that has committed")
	}
}

// begunAgain begins another attempt of a thread, and answers the thread.
func begunAgain(t *testing.T, e *Engine, th int) int {
	t.Helper()
	begin(t, e, th)
	return th
}

// TestKillEachPlace: it ends by Killed at each place of all that can be asked for, till it is decided; nothing of it is left.
func TestKillEachPlace(t *testing.T) {
	start := made(t, 4, 4)
	begin(t, start, 3)
	commits(t, start, 3, api.Pair{Tvar: 0, Val: two}, api.Pair{Tvar: 1, Val: two})
	begin(t, start, 0, 2)
	reads3(t, start, 2, 0, two)
	does(t, start, 2, write(0, three), isDone)
	does(t, start, 2, write(3, three), isDone)
	does(t, start, 2, push, isDone)
	killedAt := 0
	for _, a := range slices.Concat(everyAsk, []api.Ask{read(2), {}}) {
		e := start.Fork()
		if a == commit {
			does(t, e, 2, merge, isDone)
		}
		if a.Kind != api.NoAsk {
			ask(t, e, 2, a)
		}
		for {
			f := e.Fork()
			if slices.Contains(f.Decided(), 2) {
				stays(t, f, "Kill of one that is decided", func() {
					if f.Kill(2) != api.ErrState {
						t.Error("one that is decided was killed")
					}
				})
			} else {
				killedAt++
				leavesNothing(t, f, start, len(e.Events()))
			}
			if r := e.Step(2); r.Done || r.Errno != api.OK {
				break
			}
		}
	}
	// One place each of seven, three of a read, and of a commit 0, 1 (thrice), 2 (twice): it has two stripes, and one read.
	if killedAt != 7+3+6 {
		t.Errorf("it was killed at %d places", killedAt)
	}
}

// leavesNothing kills attempt 2 of thread 2, and holds what is left against how it all was.
func leavesNothing(t *testing.T, e, start *Engine, events int) {
	t.Helper()
	if errno := e.Kill(2); errno != api.OK {
		t.Fatalf("Kill is %d", errno)
	}
	if e.Holds(2) || !slices.Equal(words(e), words(start)) || !slices.Equal(e.Heap(), start.Heap()) || e.Valid(2) {
		t.Errorf("words are %v, the heap is %v", words(e), e.Heap())
	}
	_, has := e.Attempt(2)
	_, asked := e.Asked(2)
	if has || asked || len(e.Reads(2)) != 0 || len(e.Writes(2)) != 0 || e.Step(2) != (api.Reply{Errno: api.ErrState}) {
		t.Error("it has an attempt still")
	}
	if got := e.Events()[events:]; !slices.Equal(got, []api.Event{{Kind: api.Aborted, Attempt: 2}}) || e.Why(2) != api.Killed {
		t.Errorf("Events are %v, Why is %d", got, e.Why(2))
	}
	if !slices.Equal(e.Order(), []int{0, 1, 2}) || len(e.Decided()) != 0 {
		t.Errorf("Order is %v", e.Order())
	}
	if n, ok := e.Attempt(0); n != 1 || !ok {
		t.Error("another one is gone")
	}
}

// TestOrder: by twice WV of those that are decided, or committed with writes; by twice RV, and 1, of all others.
func TestOrder(t *testing.T) {
	e := made(t, 4, 4)
	begin(t, e, 0, 1, 2)                          // 0, 1, 2 of RV 0
	commits(t, e, 2, api.Pair{Tvar: 0, Val: two}) // 2 of WV 1
	begin(t, e, 2)                                // 3 of RV 1
	does(t, e, 1, write(1, two), isDone)
	does(t, e, 1, commit, goesOn, goesOn, goesOn) // 1 has WV 2, and is not decided
	begin(t, e, 3)                                // 4 of RV 2
	if got := e.Order(); !slices.Equal(got, []int{0, 1, 2, 3, 4}) {
		t.Errorf("Order is %v", got)
	}
	steps(t, e, 1, goesOn) // decided
	if got := e.Order(); !slices.Equal(got, []int{0, 2, 3, 1, 4}) || !slices.Equal(e.Decided(), []int{1}) {
		t.Errorf("Order is %v", got)
	}
	does(t, e, 0, write(2, two), isDone)
	does(t, e, 0, commit, goesOn, goesOn, goesOn, goesOn)
	if got := e.Order(); !slices.Equal(got, []int{2, 3, 1, 4, 0}) || !slices.Equal(e.Decided(), []int{0, 1}) {
		t.Errorf("Order is %v, Decided are %v", got, e.Decided())
	}
	steps(t, e, 1, goesOn, isOver)
	if got := e.Order(); !slices.Equal(got, []int{2, 3, 1, 4, 0}) || !slices.Equal(e.Decided(), []int{0}) {
		t.Errorf("Order is %v, Decided are %v", got, e.Decided())
	}
	does(t, e, 3, commit, isOver) // without writes: by RV
	e.Kill(2)
	steps(t, e, 0, goesOn, isOver)
	begin(t, e, 0) // 5 of RV 3
	if got := e.Order(); !slices.Equal(got, []int{2, 3, 1, 4, 0, 5}) || len(e.Decided()) != 0 {
		t.Errorf("Order is %v", got)
	}
}

// TestDecidedRise: they are told by their numbers, whatever threads they are of.
func TestDecidedRise(t *testing.T) {
	e := made(t, 4, 4)
	begin(t, e, 3, 1, 2, 0)
	for th := range 4 {
		does(t, e, th, write(th, two), isDone)
		does(t, e, th, commit, goesOn, goesOn, goesOn, goesOn)
	}
	if got := e.Decided(); !slices.Equal(got, []int{0, 1, 2, 3}) {
		t.Errorf("Decided are %v", got)
	}
	if got := e.Order(); !slices.Equal(got, []int{3, 1, 2, 0}) {
		t.Errorf("Order is %v", got)
	}
	steps(t, e, 1, goesOn, isOver)
	if got := e.Decided(); !slices.Equal(got, []int{0, 2, 3}) {
		t.Errorf("Decided are %v", got)
	}
}

func TestWhy(t *testing.T) {
	e := made(t, 1, 1)
	begin(t, e, 0, 1)
	e.Kill(0)
	for attempt, want := range map[int]api.Reason{0: api.Killed, 1: api.NoReason, 2: api.NoReason, -1: api.NoReason, math.MinInt: api.NoReason, api.MaxAttempts: api.NoReason, math.MaxInt: api.NoReason} {
		if got := e.Why(attempt); got != want {
			t.Errorf("Why(%d) is %d", attempt, got)
		}
	}
}

// TestValid: as long as no stripe of what it read is another thread's, or of a version above RV.
func TestValid(t *testing.T) {
	e := made(t, 3, 2)
	begin(t, e, 0, 1)
	if !e.Valid(0) || e.Valid(2) {
		t.Error("Valid of one that has read nothing, or has no attempt")
	}
	reads3(t, e, 0, 0, 0)
	does(t, e, 1, write(2, two), isDone)
	does(t, e, 1, commit, goesOn)
	if !e.Valid(0) {
		t.Error("nobody has the stripe")
	}
	steps(t, e, 1, goesOn)
	if e.Valid(0) {
		t.Error("another thread has the stripe")
	}
	gone := e.Fork()
	gone.Kill(1)
	if !gone.Valid(0) {
		t.Error("the stripe is as it was")
	}
	steps(t, e, 1, goesOn, goesOn, goesOn, isOver)
	if e.Valid(0) {
		t.Error("the stripe has a version above RV")
	}
	begin(t, e, 2)
	reads3(t, e, 2, 0, 0)
	reads3(t, e, 2, 1, 0)
	if !e.Valid(2) {
		t.Error("the stripe has the version RV")
	}
	begin(t, e, 3)
	commits(t, e, 3, api.Pair{Tvar: 1, Val: two})
	if e.Valid(2) {
		t.Error("the second one of its reads is another one")
	}
}

// TestNoThread: what is told of threads that there are not, or that have no attempt.
func TestNoThread(t *testing.T) {
	e := made(t, 1, 1)
	begin(t, e, 0)
	for _, th := range []int{math.MinInt, -1, 1, api.MaxThreads - 1, api.MaxThreads, math.MaxInt} {
		tellsNothing(t, e, th)
	}
}

func tellsNothing(t *testing.T, e *Engine, th int) {
	t.Helper()
	if n, ok := e.Attempt(th); n != 0 || ok {
		t.Errorf("Attempt(%d) is %d, %v", th, n, ok)
	}
	if a, ok := e.Asked(th); a != (api.Ask{}) || ok {
		t.Errorf("Asked(%d) is %v, %v", th, a, ok)
	}
	if len(e.Reads(th)) != 0 || len(e.Writes(th)) != 0 || e.Holds(th) || e.Valid(th) {
		t.Errorf("of thread %d something is told", th)
	}
}

func TestNil(t *testing.T) {
	var e *Engine
	for _, th := range []int{math.MinInt, -1, 0, api.MaxThreads, math.MaxInt} {
		if n, errno := e.Begin(th); n != 0 || errno != api.ErrNil {
			t.Errorf("Begin is %d, %d", n, errno)
		}
		for _, a := range append(everyAsk, api.Ask{}, write(-1, notRight)) {
			if errno := e.Ask(th, a); errno != api.ErrNil {
				t.Errorf("Ask is %d", errno)
			}
		}
		if r := e.Step(th); r != (api.Reply{Errno: api.ErrNil}) {
			t.Errorf("Step is %v", r)
		}
		if errno := e.Kill(th); errno != api.ErrNil {
			t.Errorf("Kill is %d", errno)
		}
		if e.Why(th) != api.NoReason {
			t.Errorf("Why is %d", e.Why(th))
		}
		tellsNothing(t, e, th)
	}
	if len(e.Heap())+len(e.Events())+len(e.Order())+len(e.Decided()) != 0 || e.Clock() != 0 || e.Fork() != nil {
		t.Error("nil tells something")
	}
}

// TestFork: what becomes of an engine changes nothing of its Fork, at each place, and the other way round (P4).
func TestFork(t *testing.T) {
	e := made(t, 4, 4)
	begin(t, e, 0, 1)
	reads3(t, e, 0, 0, 0)
	does(t, e, 0, push, isDone)
	does(t, e, 0, write(1, two), isDone)
	does(t, e, 0, merge, isDone)
	does(t, e, 0, write(2, three), isDone)
	play := func(e *Engine) []api.Reply {
		var l []api.Reply
		e.Ask(1, read(3))
		e.Ask(0, commit)
		for range 12 {
			l = append(l, e.Step(0), e.Step(1))
		}
		e.Begin(2)
		e.Ask(2, write(0, two))
		return append(l, e.Step(2))
	}
	ask(t, e, 0, commit)
	for range 9 {
		f, same := e.Fork(), e.Fork()
		if f == e || !reflect.DeepEqual(f, e) {
			t.Fatalf("Fork is %+v, not %+v", f, e)
		}
		ahead := play(f)
		if !reflect.DeepEqual(e, same) {
			t.Fatal("what became of the Fork changed the engine")
		}
		g := e.Fork()
		behind := play(e)
		if !reflect.DeepEqual(g, same) {
			t.Fatal("what became of the engine changed the Fork")
		}
		if !reflect.DeepEqual(ahead, behind) || !reflect.DeepEqual(e, f) {
			t.Fatalf("the Fork goes on otherwise: %v, not %v", ahead, behind)
		}
		e = same
		steps(t, e, 0, e.Fork().Step(0))
	}
}

// TestForkFrames: frames, reads and events that are added to one of the two are not the other one's.
func TestForkFrames(t *testing.T) {
	e := made(t, 4, 4)
	begin(t, e, 0)
	for range 3 {
		reads3(t, e, 0, 0, 0)
	}
	does(t, e, 0, push, isDone)
	f, was := e.Fork(), e.Fork()
	reads3(t, f, 0, 1, 0)
	does(t, f, 0, write(1, two), isDone)
	if !reflect.DeepEqual(e, was) {
		t.Error("the engine is another one")
	}
	does(t, e, 0, write(2, three), isDone)
	reads3(t, e, 0, 3, 0)
	if got := f.Writes(0); !slices.Equal(got, []api.Pair{{Tvar: 1, Val: two}}) {
		t.Errorf("Writes are %v", got)
	}
	if got := f.Reads(0); !slices.Equal(got, []api.Entry{{}, {Tvar: 1}}) {
		t.Errorf("Reads are %v", got)
	}
	want := []api.EventKind{api.Began, api.Read, api.Read, api.Read, api.Pushed, api.Read, api.Wrote}
	if got := kinds(f); !slices.Equal(got, want) {
		t.Errorf("Events are %v", got)
	}
}

// TestListsAreTheCallers: what is handed in is not kept, and what is answered is the caller's (P3).
func TestListsAreTheCallers(t *testing.T) {
	heap := append(make([]api.Val, 0, 8), two, 0, 0)
	e := New(heap, 3)
	spoil(heap, 99)
	if !slices.Equal(e.Heap(), []api.Val{two, 0, 0}) {
		t.Errorf("the heap is %v", e.Heap())
	}
	begin(t, e, 0, 1)
	reads3(t, e, 0, 0, two)
	reads3(t, e, 0, 1, 0)
	does(t, e, 0, write(1, three), isDone)
	does(t, e, 0, write(2, three), isDone)
	does(t, e, 1, write(0, three), isDone)
	does(t, e, 0, commit, goesOn, goesOn, goesOn, goesOn, goesOn, goesOn, goesOn)
	if len(e.Decided()) != 1 {
		t.Fatal("it is not decided")
	}
	stays(t, e, "what was answered", func() {
		for range 2 {
			spoil(e.Heap(), 99)
			spoil(e.Events(), api.Event{Kind: 99})
			spoil(e.Order(), 99)
			spoil(e.Decided(), 99)
			spoil(e.Reads(0), api.Entry{Tvar: 99})
			spoil(e.Writes(0), api.Pair{Tvar: 99})
		}
	})
	given := append(make([]api.Val, 0, 4), 0, 1)
	New(given[:1], 1)
	if given[1] != 1 {
		t.Error("spare room was written")
	}
}

// spoil writes over a list, up to its capacity.
func spoil[T any](l []T, by T) {
	l = l[:cap(l)]
	for i := range l {
		l[i] = by
	}
}

// TestApart: two engines share nothing (P6).
func TestApart(t *testing.T) {
	e := made(t, 2, 2)
	begin(t, e, 0)
	commits(t, e, 0, api.Pair{Tvar: 0, Val: two})
	other := made(t, 2, 2)
	if n, _ := other.Begin(3); n != 0 || other.Clock() != 0 || !slices.Equal(other.Heap(), make([]api.Val, 2)) || len(other.Events()) != 1 {
		t.Error("they share something")
	}
}

// TestExample: the chapter's.
func TestExample(t *testing.T) {
	e := made(t, 2, 1)
	begin(t, e, 0)
	does(t, e, 0, read(1), goesOn, goesOn, hasRead(0))
	does(t, e, 0, commit, isOver)
}

// TestValuesAsTheyAre: values come through with all their bits.
func TestValuesAsTheyAre(t *testing.T) {
	for _, v := range []api.Val{0, api.NegZero, api.NaN, api.Infinity, 1, value.Neg(two)} {
		e := made(t, 1, 1)
		begin(t, e, 0)
		commits(t, e, 0, api.Pair{Val: v})
		begin(t, e, 1)
		reads3(t, e, 1, 0, v)
		if e.Heap()[0] != v || e.Reads(1)[0].Val != v {
			t.Errorf("%x is %x", v, e.Heap()[0])
		}
	}
}
