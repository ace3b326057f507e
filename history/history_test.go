package history

import (
	"math"
	"slices"
	"testing"

	"rowlock/api"
	"rowlock/value"
	"rowlock/writes"
)

// Values that tests read and write: two, and bits of what is no number, which are not right.
const (
	two      api.Val = 0x4000000000000000
	notRight api.Val = 0x7ff8000000000001
)

// kinds are all that there are.
var kinds = []api.EventKind{api.Began, api.Read, api.Wrote, api.Pushed, api.Dropped, api.Merged, api.Tried, api.Committed, api.Aborted}

// of are events of one attempt, of variable 0 and value 0.
func of(attempt int, l ...api.EventKind) []api.Event {
	var events []api.Event
	for _, k := range l {
		events = append(events, api.Event{Kind: k, Attempt: attempt})
	}
	return events
}

func read(attempt, tvar int, v api.Val) api.Event {
	return api.Event{Kind: api.Read, Attempt: attempt, Tvar: tvar, Val: v}
}

func wrote(attempt, tvar int, v api.Val) api.Event {
	return api.Event{Kind: api.Wrote, Attempt: attempt, Tvar: tvar, Val: v}
}

// then is l with more behind it, in a list of its own.
func then(l []api.Event, more ...api.Event) []api.Event { return slices.Concat(l, more) }

// numbers are whole numbers below n, one behind the other, the same ones at each run.
func numbers(x uint64) func(n int) int {
	return func(n int) int {
		x = x*6364136223846793005 + 1442695040888963407
		return int((x >> 33) % uint64(n))
	}
}

// began is an attempt that has begun, and nothing else.
func began(attempt int) []api.Event { return of(attempt, api.Began) }

func TestRightOfNoEvents(t *testing.T) {
	if !Right(nil) || !Right([]api.Event{}) {
		t.Error("no events are not right")
	}
}

// TestRightLength: MaxEvents, and one more.
func TestRightLength(t *testing.T) {
	l := began(3)
	for len(l) < api.MaxEvents {
		l = append(l, read(3, 1, two))
	}
	if !Right(l[:api.MaxEvents-1]) || !Right(l) {
		t.Error("MaxEvents are too many")
	}
	if Right(then(l, read(3, 1, two))) || Right(then(l, of(3, api.Aborted)...)) {
		t.Error("one more than MaxEvents is right")
	}
	var many []api.Event
	for attempt := range api.MaxAttempts {
		many = append(many, of(attempt, api.Began, api.Pushed, api.Dropped, api.Tried, api.Committed)...)
	}
	if !Right(many) {
		t.Error("MaxAttempts are too many")
	}
}

func TestRightAttempts(t *testing.T) {
	for attempt, want := range map[int]bool{math.MinInt: false, -1: false, 0: true, 1: true, api.MaxAttempts - 1: true, api.MaxAttempts: false, math.MaxInt: false} {
		if got := Right(of(attempt, api.Began)); got != want {
			t.Errorf("an attempt %d is right: %v", attempt, got)
		}
		if got := Right(then(began(5), of(attempt, api.Began, api.Tried, api.Committed)...)); got != want {
			t.Errorf("an attempt %d beside another one is right: %v", attempt, got)
		}
	}
}

// TestRightCourse: which kinds may come behind which course of an attempt, whatever another one does meanwhile.
func TestRightCourse(t *testing.T) {
	live := []api.EventKind{api.Read, api.Wrote, api.Pushed, api.Tried, api.Aborted}
	rows := []struct {
		name  string
		ahead []api.EventKind
		next  []api.EventKind
	}{
		{"not begun", nil, []api.EventKind{api.Began}},
		{"begun", []api.EventKind{api.Began}, live},
		{"read", []api.EventKind{api.Began, api.Read}, live},
		{"wrote", []api.EventKind{api.Began, api.Wrote}, live},
		{"a frame more", []api.EventKind{api.Began, api.Pushed}, []api.EventKind{api.Read, api.Wrote, api.Pushed, api.Dropped, api.Merged, api.Aborted}},
		{"a frame dropped", []api.EventKind{api.Began, api.Pushed, api.Dropped}, live},
		{"a frame merged", []api.EventKind{api.Began, api.Pushed, api.Merged}, live},
		{"two frames, one dropped", []api.EventKind{api.Began, api.Pushed, api.Pushed, api.Dropped}, []api.EventKind{api.Read, api.Wrote, api.Pushed, api.Dropped, api.Merged, api.Aborted}},
		{"MaxDepth frames", []api.EventKind{api.Began, api.Pushed, api.Pushed, api.Pushed, api.Pushed}, []api.EventKind{api.Read, api.Wrote, api.Dropped, api.Merged, api.Aborted}},
		{"tried", []api.EventKind{api.Began, api.Tried}, []api.EventKind{api.Committed, api.Aborted}},
		{"wrote and tried", []api.EventKind{api.Began, api.Wrote, api.Pushed, api.Merged, api.Tried}, []api.EventKind{api.Committed, api.Aborted}},
		{"committed", []api.EventKind{api.Began, api.Tried, api.Committed}, nil},
		{"aborted", []api.EventKind{api.Began, api.Aborted}, nil},
		{"aborted in a frame", []api.EventKind{api.Began, api.Pushed, api.Aborted}, nil},
		{"tried and aborted", []api.EventKind{api.Began, api.Tried, api.Aborted}, nil},
	}
	for _, r := range rows {
		l := of(2, r.ahead...)
		beside := then(of(7, api.Began, api.Pushed, api.Wrote), l...)
		behind := then(l, of(7, api.Began, api.Tried, api.Committed)...)
		for k := range 256 {
			kind := api.EventKind(k)
			want := slices.Contains(r.next, kind)
			for _, ahead := range [][]api.Event{l, beside, behind} {
				if got := Right(then(ahead, of(2, kind)...)); got != want {
					t.Errorf("%s, then %d: %v, of %v", r.name, k, got, ahead)
				}
			}
		}
		if !Right(l) || !Right(beside) || !Right(behind) {
			t.Errorf("%s is not right", r.name)
		}
	}
}

// TestRightNames: of which variables and values events may be.
func TestRightNames(t *testing.T) {
	tvars := map[int]bool{math.MinInt: false, -1: false, 0: true, 1: true, api.MaxTvars - 1: true, api.MaxTvars: false, math.MaxInt: false}
	vals := map[api.Val]bool{0: true, api.NegZero: true, two: true, 1: true, api.NaN: true, api.Infinity: true, api.Infinity | api.NegZero: true,
		notRight: false, api.Infinity + 1: false, api.NaN | api.NegZero: false, math.MaxUint64: false}
	for tvar, named := range tvars {
		for v, right := range vals {
			for _, e := range []api.Event{read(4, tvar, v), wrote(4, tvar, v)} {
				if got := Right(then(began(4), e)); got != (named && right) {
					t.Errorf("%v is right: %v", e, got)
				}
			}
			for _, kind := range []api.EventKind{api.Began, api.Pushed, api.Dropped, api.Merged, api.Tried, api.Committed, api.Aborted} {
				ahead := map[api.EventKind][]api.Event{api.Began: nil, api.Dropped: of(4, api.Began, api.Pushed), api.Merged: of(4, api.Began, api.Pushed), api.Committed: of(4, api.Began, api.Tried)}
				l, ok := ahead[kind]
				if !ok {
					l = began(4)
				}
				e := api.Event{Kind: kind, Attempt: 4, Tvar: tvar, Val: v}
				if got := Right(then(l, e)); got != (tvar == 0 && v == 0) {
					t.Errorf("%v is right: %v", e, got)
				}
			}
		}
	}
}

// TestRightSpace: MaxWrites values over frames, and one more; each attempt has a log of its own.
func TestRightSpace(t *testing.T) {
	l := began(1)
	for tvar := range api.MaxTvars {
		l = append(l, wrote(1, tvar, two))
	}
	l = append(l, of(1, api.Pushed)...)
	for tvar := range api.MaxWrites - api.MaxTvars {
		l = append(l, wrote(1, tvar, api.One))
	}
	if !Right(l) || !Right(then(l, wrote(1, 0, two))) || !Right(then(l, then(began(0), wrote(0, 9, two))...)) {
		t.Error("MaxWrites are too many")
	}
	if Right(then(l, wrote(1, 9, two))) || Right(then(l, append(of(1, api.Pushed), wrote(1, 0, two))...)) {
		t.Error("one more than MaxWrites is right")
	}
	if !Right(then(l, append(of(1, api.Merged, api.Pushed), wrote(1, 9, two))...)) || !Right(then(l, append(of(1, api.Dropped, api.Pushed), wrote(1, 9, two))...)) {
		t.Error("there is no room behind Merged, or Dropped")
	}
	if Right(slices.Concat(began(0), began(1), of(0, api.Pushed), of(1, api.Dropped))) {
		t.Error("an attempt drops another one's frame")
	}
	if !Right(slices.Concat(began(0), began(1), of(0, api.Pushed), of(1, api.Tried))) {
		t.Error("another one's frame keeps an attempt from trying")
	}
}

// TestExample: the one that the chapter gives.
func TestExample(t *testing.T) {
	l := slices.Concat(began(0), []api.Event{wrote(0, 1, two), read(0, 1, two)}, of(0, api.Tried, api.Committed))
	if !Right(l) || !Own(l, 0) || len(Reads(l, 0)) != 0 || !slices.Equal(Writes(l, 0), []api.Pair{{Tvar: 1, Val: two}}) {
		t.Errorf("Right %v, Own %v, Reads %v, Writes %v", Right(l), Own(l, 0), Reads(l, 0), Writes(l, 0))
	}
}

// TestAttempts: in the order of their first Began, each once, whatever their numbers are.
func TestAttempts(t *testing.T) {
	rows := []struct {
		name string
		l    []api.Event
		want []int
	}{
		{"nil", nil, nil},
		{"none", []api.Event{}, nil},
		{"one", began(0), []int{0}},
		{"falling", slices.Concat(began(9), began(4), began(0)), []int{9, 4, 0}},
		{"begun twice", slices.Concat(began(3), began(5), began(3), began(5), began(1)), []int{3, 5, 1}},
		{"no attempts", slices.Concat(began(-1), began(64), began(math.MaxInt), began(math.MinInt)), []int{-1, 64, math.MaxInt, math.MinInt}},
		{"not begun", slices.Concat(of(2, api.Read, api.Wrote, api.Pushed, api.Dropped, api.Merged, api.Tried, api.Committed, api.Aborted, api.NoEvent, 10, 255), began(1)), []int{1}},
		{"begun behind others", slices.Concat(of(2, api.Tried), began(1), of(2, api.Committed, api.Began)), []int{1, 2}},
		{"a Began that may not be", []api.Event{{Kind: api.Began, Attempt: 6, Tvar: 99, Val: notRight}}, []int{6}},
	}
	for _, r := range rows {
		if got := Attempts(r.l); !slices.Equal(got, r.want) {
			t.Errorf("%s: Attempts are %v, not %v", r.name, got, r.want)
		}
	}
}

// TestStateOf: by the last one that tells, of events that are not right, too.
func TestStateOf(t *testing.T) {
	rows := []struct {
		name string
		l    []api.Event
		want api.AttemptState
	}{
		{"nothing", nil, api.NoAttempt},
		{"another one", of(1, api.Began, api.Tried), api.NoAttempt},
		{"not begun", of(2, api.Read, api.Tried, api.Committed, api.Aborted), api.NoAttempt},
		{"begun", of(2, api.Began), api.Live},
		{"begun twice", of(2, api.Began, api.Began), api.Live},
		{"begun, and others", of(2, api.Began, api.Read, api.Wrote, api.Pushed, api.Dropped, api.Merged, api.NoEvent, 10, 255), api.Live},
		{"tried", of(2, api.Began, api.Tried), api.Pending},
		{"tried, and others", of(2, api.Began, api.Tried, api.Read, api.Began, 10), api.Pending},
		{"committed", of(2, api.Began, api.Tried, api.Committed), api.Success},
		{"committed without a try", of(2, api.Began, api.Committed), api.Success},
		{"aborted", of(2, api.Began, api.Aborted), api.Failure},
		{"tried and aborted", of(2, api.Began, api.Tried, api.Aborted), api.Failure},
		{"committed, then aborted", of(2, api.Began, api.Tried, api.Committed, api.Aborted), api.Failure},
		{"aborted, then committed", of(2, api.Began, api.Aborted, api.Committed), api.Success},
		{"aborted, then tried", of(2, api.Began, api.Aborted, api.Tried), api.Pending},
		{"committed, then begun", of(2, api.Began, api.Tried, api.Committed, api.Began), api.Success},
		{"tried ahead of its Began", of(2, api.Tried, api.Began), api.Pending},
		{"aborted ahead of its Began", of(2, api.Tried, api.Aborted, api.Began, api.Read), api.Failure},
		{"beside another one", slices.Concat(of(2, api.Began, api.Tried), of(1, api.Began, api.Aborted)), api.Pending},
		{"events that may not be", []api.Event{{Kind: api.Began, Attempt: 2, Tvar: -1}, {Kind: api.Committed, Attempt: 2, Val: notRight}}, api.Success},
	}
	for _, r := range rows {
		if got := StateOf(r.l, 2); got != r.want {
			t.Errorf("%s: %d, not %d", r.name, got, r.want)
		}
	}
	wild := slices.Concat(of(-1, api.Began), of(64, api.Began, api.Tried), of(math.MinInt, api.Began, api.Aborted))
	if StateOf(wild, -1) != api.Live || StateOf(wild, 64) != api.Pending || StateOf(wild, math.MinInt) != api.Failure || StateOf(wild, 0) != api.NoAttempt {
		t.Error("numbers that no attempt may have")
	}
}

func TestIn(t *testing.T) {
	l := slices.Concat(began(7), of(5, api.Began, api.Aborted), of(3, api.Tried), of(9, api.Began, api.Tried), of(8, api.Began, api.Tried, api.Committed), began(1), of(-1, api.Began, api.Committed), began(7))
	rows := []struct {
		s    api.AttemptState
		want []int
	}{
		{api.NoAttempt, nil}, {api.Live, []int{7, 1}}, {api.Pending, []int{9}}, {api.Success, []int{8, -1}}, {api.Failure, []int{5}}, {api.Failure + 1, nil}, {255, nil},
	}
	for _, r := range rows {
		if got := In(l, r.s); !slices.Equal(got, r.want) {
			t.Errorf("In(%d) is %v, not %v", r.s, got, r.want)
		}
		if got := In(nil, r.s); len(got) != 0 {
			t.Errorf("In(nil, %d) is %v", r.s, got)
		}
	}
}

// TestBefore: any end of the one counts, just the first Began of the other one does.
func TestBefore(t *testing.T) {
	rows := []struct {
		name string
		l    []api.Event
		want bool
	}{
		{"nothing", nil, false},
		{"committed, then begun", slices.Concat(of(1, api.Began, api.Tried, api.Committed), began(2)), true},
		{"aborted, then begun", slices.Concat(of(1, api.Began, api.Aborted), began(2)), true},
		{"tried, then begun", slices.Concat(of(1, api.Began, api.Tried), began(2), of(1, api.Committed)), false},
		{"begun between", slices.Concat(began(1), began(2), of(1, api.Aborted)), false},
		{"the other way round", slices.Concat(of(2, api.Began, api.Aborted), of(1, api.Began, api.Aborted)), false},
		{"never begun", of(1, api.Began, api.Tried, api.Committed), false},
		{"not begun, but there", slices.Concat(of(1, api.Began, api.Aborted), of(2, api.Read, api.Tried)), false},
		{"a third one's end", slices.Concat(began(1), of(3, api.Began, api.Aborted), began(2)), false},
		{"a third one begins", slices.Concat(began(1), began(3), of(1, api.Aborted), began(2)), true},
		{"ended without having begun", slices.Concat(of(1, api.Committed), began(2)), true},
		{"begun twice, ended between", slices.Concat(began(1), began(2), of(1, api.Aborted), began(2)), false},
		{"ended twice", slices.Concat(of(1, api.Began, api.Aborted), began(2), of(1, api.Committed)), true},
		{"others between", slices.Concat(of(1, api.Began, api.Aborted), of(2, api.Read, api.Began)), true},
		{"kinds that there are not", slices.Concat(of(1, api.Began, 10, api.NoEvent), began(2)), false},
		{"events that may not be", []api.Event{{Kind: api.Aborted, Attempt: 1, Tvar: 77}, {Kind: api.Began, Attempt: 2, Val: notRight}}, true},
	}
	for _, r := range rows {
		if got := Before(r.l, 1, 2); got != r.want {
			t.Errorf("%s: %v", r.name, got)
		}
	}
	if l := of(1, api.Began, api.Aborted, api.Began); Before(l, 1, 1) {
		t.Error("one is before itself")
	}
	if l := of(1, api.Aborted, api.Began); !Before(l, 1, 1) {
		t.Error("its end stands ahead of its first Began")
	}
	if l := slices.Concat(of(-1, api.Aborted), began(64)); !Before(l, -1, 64) || Before(l, 64, -1) {
		t.Error("numbers that no attempt may have")
	}
}

func TestCut(t *testing.T) {
	a := []api.Event{{Kind: api.Began, Attempt: 1}, read(1, 3, two), {Kind: 77, Attempt: 1, Tvar: -4, Val: notRight}, read(1, 3, two)}
	b := []api.Event{{Kind: api.Aborted, Attempt: -1, Tvar: 5}}
	l := []api.Event{a[0], b[0], a[1], a[2], a[3]}
	for attempt, want := range map[int][]api.Event{1: a, -1: b, 0: nil, 2: nil, math.MinInt: nil} {
		if got := Cut(l, attempt); !slices.Equal(got, want) {
			t.Errorf("Cut of %d is %v, not %v", attempt, got, want)
		}
	}
	if len(Cut(nil, 0)) != 0 {
		t.Error("Cut of nothing is something")
	}
}

// TestOwnLog: what an attempt read of others, what of its own log, and what it has written, of events that are not right, too.
func TestOwnLog(t *testing.T) {
	push, drop, merge := of(2, api.Pushed)[0], of(2, api.Dropped)[0], of(2, api.Merged)[0]
	full := began(2)
	for tvar := range api.MaxTvars {
		full = append(full, wrote(2, tvar, two))
	}
	full = append(full, push, wrote(2, 0, 0), wrote(2, 1, 0), wrote(2, 2, 0), wrote(2, 3, 0), push, wrote(2, 4, 0))
	var all []api.Pair
	for tvar := range api.MaxTvars {
		v := two
		if tvar < 4 {
			v = 0
		}
		all = append(all, api.Pair{Tvar: tvar, Val: v})
	}
	rows := []struct {
		name          string
		l             []api.Event
		reads, writes []api.Pair
		own           bool
	}{
		{"nothing", nil, nil, nil, true},
		{"others only", []api.Event{read(1, 1, two), wrote(1, 1, two), read(1, 1, 0)}, nil, nil, true},
		{"reads", []api.Event{read(2, 5, two), read(2, 1, 0), read(2, 5, 0), read(2, 5, two)}, []api.Pair{{Tvar: 5, Val: two}, {Tvar: 1}, {Tvar: 5}, {Tvar: 5, Val: two}}, nil, true},
		{"writes", []api.Event{wrote(2, 5, two), wrote(2, 1, 0), wrote(2, 5, api.One)}, nil, []api.Pair{{Tvar: 1}, {Tvar: 5, Val: api.One}}, true},
		{"read, then written", []api.Event{read(2, 5, two), wrote(2, 5, api.One)}, []api.Pair{{Tvar: 5, Val: two}}, []api.Pair{{Tvar: 5, Val: api.One}}, true},
		{"written, then read", []api.Event{wrote(2, 5, two), read(2, 5, two), read(2, 4, two)}, []api.Pair{{Tvar: 4, Val: two}}, []api.Pair{{Tvar: 5, Val: two}}, true},
		{"written, then read otherwise", []api.Event{wrote(2, 5, two), read(2, 5, api.One)}, nil, []api.Pair{{Tvar: 5, Val: two}}, false},
		{"read otherwise, then as it is", []api.Event{wrote(2, 5, two), read(2, 5, 0), read(2, 5, two)}, nil, []api.Pair{{Tvar: 5, Val: two}}, false},
		{"written, read, written, read", []api.Event{wrote(2, 5, two), read(2, 5, two), wrote(2, 5, 0), read(2, 5, 0)}, nil, []api.Pair{{Tvar: 5}}, true},
		{"what stood there earlier", []api.Event{wrote(2, 5, two), wrote(2, 5, 0), read(2, 5, two)}, nil, []api.Pair{{Tvar: 5}}, false},
		{"-0 for 0", []api.Event{wrote(2, 5, 0), read(2, 5, api.NegZero)}, nil, []api.Pair{{Tvar: 5}}, false},
		{"NaN for NaN", []api.Event{wrote(2, 5, api.NaN), read(2, 5, api.NaN)}, nil, []api.Pair{{Tvar: 5, Val: api.NaN}}, true},
		{"bits that count as NaN", []api.Event{wrote(2, 5, api.NaN), read(2, 5, notRight)}, nil, []api.Pair{{Tvar: 5, Val: api.NaN}}, true},
		{"such bits for a number", []api.Event{wrote(2, 5, two), read(2, 5, notRight)}, nil, []api.Pair{{Tvar: 5, Val: two}}, false},
		{"another one's writes", []api.Event{wrote(1, 5, two), read(2, 5, two), wrote(1, 5, 0)}, []api.Pair{{Tvar: 5, Val: two}}, nil, true},
		{"another one's frames", []api.Event{push, wrote(2, 5, two), {Kind: api.Dropped, Attempt: 1}, read(2, 5, two)}, nil, []api.Pair{{Tvar: 5, Val: two}}, true},
		{"a frame", []api.Event{wrote(2, 5, two), push, read(2, 5, two), wrote(2, 5, 0), read(2, 5, 0)}, nil, []api.Pair{{Tvar: 5}}, true},
		{"a frame dropped", []api.Event{push, wrote(2, 5, two), read(2, 5, two), drop, read(2, 5, 0)}, []api.Pair{{Tvar: 5}}, nil, true},
		{"a frame dropped, one below", []api.Event{wrote(2, 5, two), push, wrote(2, 5, 0), drop, read(2, 5, two)}, nil, []api.Pair{{Tvar: 5, Val: two}}, true},
		{"a frame dropped, read as in it", []api.Event{wrote(2, 5, two), push, wrote(2, 5, 0), drop, read(2, 5, 0)}, nil, []api.Pair{{Tvar: 5, Val: two}}, false},
		{"a frame merged", []api.Event{wrote(2, 5, two), push, wrote(2, 5, 0), wrote(2, 6, 0), merge, read(2, 5, 0), read(2, 6, 0)}, nil, []api.Pair{{Tvar: 5}, {Tvar: 6}}, true},
		{"Dropped and Merged without a frame", []api.Event{wrote(2, 5, two), drop, merge, read(2, 5, two)}, nil, []api.Pair{{Tvar: 5, Val: two}}, true},
		{"a fifth frame passed over", []api.Event{push, push, push, push, push, wrote(2, 5, two), merge, merge, merge, read(2, 5, two), drop, read(2, 5, 0)}, []api.Pair{{Tvar: 5}}, nil, true},
		{"what writes refuses", []api.Event{wrote(2, 12, two), wrote(2, -1, two), wrote(2, 3, notRight), read(2, 12, 0), read(2, -1, 0), read(2, 3, notRight)}, []api.Pair{{Tvar: 12}, {Tvar: -1}, {Tvar: 3, Val: notRight}}, nil, true},
		{"what there is no room for", append(full, read(2, 4, two), read(2, 0, 0)), nil, all, true},
		{"not begun, tried, ended", slices.Concat([]api.Event{wrote(2, 5, two)}, of(2, api.Began, api.Tried), []api.Event{wrote(2, 6, two)}, of(2, api.Committed), []api.Event{read(2, 6, 0), wrote(2, 7, two), read(2, 8, 0)}), []api.Pair{{Tvar: 8}}, []api.Pair{{Tvar: 5, Val: two}, {Tvar: 6, Val: two}, {Tvar: 7, Val: two}}, false},
		{"begun twice", slices.Concat(began(2), []api.Event{wrote(2, 5, two)}, began(2), []api.Event{read(2, 5, two)}), nil, []api.Pair{{Tvar: 5, Val: two}}, true},
		{"aborted", slices.Concat(began(2), []api.Event{wrote(2, 5, two)}, of(2, api.Aborted)), nil, []api.Pair{{Tvar: 5, Val: two}}, true},
		{"frames that are open", slices.Concat(began(2), []api.Event{wrote(2, 5, two), push, wrote(2, 4, 0), push, wrote(2, 5, 0)}), nil, []api.Pair{{Tvar: 4}, {Tvar: 5}}, true},
		{"a frame with a name", []api.Event{{Kind: api.Pushed, Attempt: 2, Tvar: 5, Val: notRight}, wrote(2, 5, 0), {Kind: api.Dropped, Attempt: 2, Tvar: -1}, read(2, 5, two)}, []api.Pair{{Tvar: 5, Val: two}}, nil, true},
		{"kinds that there are not", []api.Event{{Kind: 10, Attempt: 2, Tvar: 5, Val: two}, {Attempt: 2, Tvar: 5, Val: two}}, nil, nil, true},
	}
	for _, r := range rows {
		if got := Reads(r.l, 2); !slices.Equal(got, r.reads) {
			t.Errorf("%s: Reads are %v, not %v", r.name, got, r.reads)
		}
		if got := Writes(r.l, 2); !slices.Equal(got, r.writes) {
			t.Errorf("%s: Writes are %v, not %v", r.name, got, r.writes)
		}
		if got := Own(r.l, 2); got != r.own {
			t.Errorf("%s: Own is %v", r.name, got)
		}
	}
	wild := []api.Event{wrote(-1, 5, two), read(-1, 5, 0), read(64, 5, two)}
	if Own(wild, -1) || len(Writes(wild, -1)) != 1 || len(Reads(wild, 64)) != 1 || !Own(wild, 64) {
		t.Error("numbers that no attempt may have")
	}
}

// TestAnswersAreApart: what is handed in stays as it is, spare room too, and no list of an answer lies in it (P3).
func TestAnswersAreApart(t *testing.T) {
	room := []api.Event{{Kind: api.Began, Attempt: 2}, read(2, 1, two), wrote(2, 3, two), {Kind: api.Began, Attempt: 1}, read(2, 3, two), {Kind: api.Tried, Attempt: 2}, {Kind: 99, Attempt: 2, Tvar: 7}, {Kind: api.Began, Attempt: 6}}
	whole := slices.Clone(room)
	l := room[:5]
	if Right(l); StateOf(l, 2) != api.Live || Before(l, 2, 1) || !Own(l, 2) {
		t.Error("what stands behind the end counts")
	}
	over(Cut(l, 2), api.Event{Kind: 77})
	over(Attempts(l), 77)
	over(In(l, api.Live), 77)
	over(Reads(l, 2), api.Pair{Tvar: 77})
	over(Writes(l, 2), api.Pair{Tvar: 77})
	if !slices.Equal(room, whole) {
		t.Errorf("the events are %v", room)
	}
	if got := Attempts(l); !slices.Equal(got, []int{2, 1}) {
		t.Errorf("Attempts are %v", got)
	}
}

// over writes v over all of l, spare room too.
func over[T any](l []T, v T) {
	l = l[:cap(l)]
	for i := range l {
		l[i] = v
	}
}

// TestShortCourses holds Right against the chapter's words, for all rows of up to five kinds of one attempt.
func TestShortCourses(t *testing.T) {
	rights := 0
	var grow func(l []api.Event)
	grow = func(l []api.Event) {
		want := right(l)
		if Right(l) != want {
			t.Fatalf("Right is %v of %v", !want, l)
		}
		if want {
			rights++
		}
		if len(l) == 5 {
			return
		}
		for _, k := range append([]api.EventKind{api.NoEvent, 10}, kinds...) {
			grow(then(l, of(3, k)...))
		}
	}
	grow(nil)
	if rights < 200 {
		t.Errorf("only %d were right", rights)
	}
}

// TestManyEvents holds all calls against the chapter's words, of many rows of events: of those that are right, and of those that are not any longer.
func TestManyEvents(t *testing.T) {
	below := numbers(11)
	rights, wrongs, others := 0, 0, 0
	for range 1000 {
		var l []api.Event
		strict := below(3) > 0
		for range below(60) {
			next := then(l, anyEvent(below))
			if !strict || right(next) {
				l = next
			}
		}
		holds(t, l)
		if t.Failed() {
			t.Fatalf("of %v", l)
		}
		if right(l) {
			rights++
			follows(t, l)
		} else {
			wrongs++
		}
		if slices.ContainsFunc(Attempts(l), func(a int) bool { return !Own(l, a) }) {
			others++
		}
	}
	if rights < 100 || wrongs < 100 || others < 40 {
		t.Errorf("%d were right, %d not, %d read otherwise than they wrote", rights, wrongs, others)
	}
}

// anyEvent is an event of one of four attempts.
func anyEvent(below func(n int) int) api.Event {
	e := api.Event{Kind: api.EventKind(below(11)), Attempt: below(4)}
	if below(40) == 0 {
		e.Attempt = -1
	}
	if e.Kind == api.Read || e.Kind == api.Wrote || below(30) == 0 {
		e.Tvar = below(4)
		e.Val = []api.Val{0, api.NegZero, api.NaN, two}[below(4)]
	}
	if below(60) == 0 {
		e.Val = notRight
	}
	return e
}

// right tells by the chapter's words whether events are: it looks at each with all that stand ahead of it.
func right(l []api.Event) bool {
	for i, e := range l {
		has := func(k api.EventKind) bool {
			return slices.ContainsFunc(l[:i], func(o api.Event) bool { return o.Attempt == e.Attempt && o.Kind == k })
		}
		log := ownLog(l[:i], e.Attempt)
		if e.Attempt < 0 || e.Attempt > 63 || !slices.Contains(kinds, e.Kind) {
			return false
		}
		if has(api.Began) != (e.Kind != api.Began) || has(api.Committed) || has(api.Aborted) {
			return false
		}
		if e.Kind == api.Committed && !has(api.Tried) || e.Kind >= api.Read && e.Kind <= api.Tried && has(api.Tried) {
			return false
		}
		if e.Kind == api.Read || e.Kind == api.Wrote {
			if e.Tvar < 0 || e.Tvar > 11 || !value.Right(e.Val) {
				return false
			}
		} else if e.Tvar != 0 || e.Val != 0 {
			return false
		}
		if did(log.Fork(), e) != api.OK || e.Kind == api.Tried && log.Depth() > 0 {
			return false
		}
	}
	return len(l) <= 400
}

// ownLog is an attempt's own log behind events.
func ownLog(l []api.Event, attempt int) *writes.Log {
	log := writes.New()
	for _, e := range l {
		if e.Attempt == attempt {
			did(log, e)
		}
	}
	return log
}

// did does to a log what e says.
func did(log *writes.Log, e api.Event) api.Errno {
	put := func() api.Errno { return log.Put(e.Tvar, e.Val) }
	ways := map[api.EventKind]func() api.Errno{api.Wrote: put, api.Pushed: log.Push, api.Dropped: log.Drop, api.Merged: log.Merge}
	if way, ok := ways[e.Kind]; ok {
		return way()
	}
	return api.OK
}

// holds holds all calls against the chapter's words.
func holds(t *testing.T, l []api.Event) {
	t.Helper()
	if Right(l) != right(l) {
		t.Errorf("Right is %v", Right(l))
	}
	var attempts []int
	in := map[api.AttemptState][]int{}
	for i, e := range l {
		if e.Kind == api.Began && firstBegan(l, e.Attempt) == i {
			attempts = append(attempts, e.Attempt)
			in[stateOf(l, e.Attempt)] = append(in[stateOf(l, e.Attempt)], e.Attempt)
		}
	}
	if got := Attempts(l); !slices.Equal(got, attempts) {
		t.Errorf("Attempts are %v, not %v", got, attempts)
	}
	for s := range api.Failure + 2 {
		if got := In(l, s); !slices.Equal(got, in[s]) {
			t.Errorf("In(%d) is %v, not %v", s, got, in[s])
		}
	}
	for a := -2; a < 5; a++ {
		holdsOf(t, l, a)
	}
}

// holdsOf is holds, of one attempt.
func holdsOf(t *testing.T, l []api.Event, a int) {
	t.Helper()
	if got, want := StateOf(l, a), stateOf(l, a); got != want {
		t.Errorf("StateOf(%d) is %d, not %d", a, got, want)
	}
	for b := -2; b < 5; b++ {
		end := slices.IndexFunc(l, func(e api.Event) bool {
			return e.Attempt == a && (e.Kind == api.Committed || e.Kind == api.Aborted)
		})
		if got, want := Before(l, a, b), end >= 0 && end < firstBegan(l, b); got != want {
			t.Errorf("Before(%d, %d) is %v", a, b, got)
		}
	}
	var cut []api.Event
	var reads []api.Pair
	own := true
	for i, e := range l {
		if e.Attempt != a {
			continue
		}
		cut = append(cut, e)
		v, has := ownLog(l[:i], a).Get(e.Tvar)
		if e.Kind == api.Read && !has {
			reads = append(reads, api.Pair{Tvar: e.Tvar, Val: e.Val})
		}
		if e.Kind == api.Read && has && v != value.Canon(e.Val) {
			own = false
		}
	}
	if got := Cut(l, a); !slices.Equal(got, cut) {
		t.Errorf("Cut of %d is %v, not %v", a, got, cut)
	}
	if got := Reads(l, a); !slices.Equal(got, reads) {
		t.Errorf("Reads of %d are %v, not %v", a, got, reads)
	}
	if got, want := Writes(l, a), ownLog(l, a).All(); !slices.Equal(got, want) {
		t.Errorf("Writes of %d are %v, not %v", a, got, want)
	}
	if got := Own(l, a); got != own {
		t.Errorf("Own of %d is %v", a, got)
	}
}

// firstBegan is the place of an attempt's first Began; -1: there is none.
func firstBegan(l []api.Event, attempt int) int {
	return slices.IndexFunc(l, func(e api.Event) bool { return e.Kind == api.Began && e.Attempt == attempt })
}

// stateOf is an attempt's state by the chapter's words.
func stateOf(l []api.Event, attempt int) api.AttemptState {
	if firstBegan(l, attempt) < 0 {
		return api.NoAttempt
	}
	for _, e := range slices.Backward(l) {
		if e.Attempt == attempt && e.Kind >= api.Tried && e.Kind <= api.Aborted {
			return map[api.EventKind]api.AttemptState{api.Tried: api.Pending, api.Committed: api.Success, api.Aborted: api.Failure}[e.Kind]
		}
	}
	return api.Live
}

// follows holds right events against what follows: Before is an order (P8.3), a beginning is right (P8.4), and so is Cut (P8.5).
func follows(t *testing.T, l []api.Event) {
	t.Helper()
	for n := range l {
		if !Right(l[:n]) {
			t.Errorf("the first %d of %v are not right", n, l)
		}
	}
	attempts := Attempts(l)
	for _, a := range attempts {
		if !Right(Cut(l, a)) {
			t.Errorf("Cut of %d of %v is not right", a, l)
		}
		if Before(l, a, a) {
			t.Errorf("%d is before itself in %v", a, l)
		}
		for _, b := range attempts {
			for _, c := range attempts {
				if Before(l, a, b) && Before(l, b, c) && !Before(l, a, c) {
					t.Errorf("%d, %d, %d in %v", a, b, c, l)
				}
			}
		}
	}
}

// TestBeforeGoesOn: attempts that come one at a time are each before all that come behind (P8.3).
func TestBeforeGoesOn(t *testing.T) {
	var l []api.Event
	for _, a := range []int{4, 0, 9, 2} {
		l = append(l, of(a, api.Began, api.Tried, api.Committed)...)
	}
	follows(t, l)
	order := Attempts(l)
	for i, a := range order {
		for j, b := range order {
			if Before(l, a, b) != (i < j) {
				t.Errorf("Before(%d, %d) is %v", a, b, i >= j)
			}
		}
	}
}

// TestNothingIsKept: the same call answers the same, whatever was asked between (P6).
func TestNothingIsKept(t *testing.T) {
	l := slices.Concat(began(1), []api.Event{wrote(1, 2, two)}, of(1, api.Tried, api.Committed), began(0))
	wrong := slices.Concat(of(1, api.Merged, api.Began, api.Began), []api.Event{wrote(0, 3, 0)})
	for range 3 {
		if !Right(l) || Right(wrong) {
			t.Error("Right answers otherwise")
		}
		if !slices.Equal(Writes(l, 1), []api.Pair{{Tvar: 2, Val: two}}) || len(Writes(l, 0)) != 0 || len(Writes(wrong, 0)) != 1 {
			t.Error("Writes answers otherwise")
		}
		holds(t, l)
		holds(t, wrong)
	}
}
