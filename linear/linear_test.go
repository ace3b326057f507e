package linear

import (
	"math"
	"slices"
	"testing"

	"rowlock/api"
)

// two and three are values; notRight is bits of what is no number, which are not right.
const (
	two      api.Val = 0x4000000000000000
	three    api.Val = 0x4008000000000000
	notRight api.Val = 0x7ff8000000000001
)

// span is a call of a thread without a value, its answer, and when it began and ended.
func span(k api.CallKind, who int, answer api.Val, from, to int) api.Span {
	return api.Span{Call: api.Call{Kind: k, Who: who}, Answer: answer, From: from, To: to}
}

// with is a span whose call has a value.
func with(s api.Span, v api.Val) api.Span {
	s.Call.Val = v
	return s
}

// inTurn are so many calls that came one at a time.
func inTurn(n int) []api.Span {
	var l []api.Span
	for i := range n {
		l = append(l, span(api.UpIt, 0, api.One, 2*i, 2*i+1))
	}
	return l
}

// upTo are the numbers below n.
func upTo(n int) []int {
	var l []int
	for i := range n {
		l = append(l, i)
	}
	return l
}

// is holds Legal against what it should answer.
func is(t *testing.T, k api.ObjectKind, size int, l []api.Span, order []int, place int, errno api.Errno) {
	t.Helper()
	if at, e := Legal(k, size, l, order); at != place || e != errno {
		t.Errorf("Legal(%d, %d, %+v, %v) is %d, %d, not %d, %d", k, size, l, order, at, e, place, errno)
	}
}

// finds holds Found against what it should answer.
func finds(t *testing.T, k api.ObjectKind, size int, l []api.Span, errno api.Errno, order ...int) {
	t.Helper()
	if got, e := Found(k, size, l); !slices.Equal(got, order) || e != errno {
		t.Errorf("Found(%d, %d, %+v) is %v, %d, not %v, %d", k, size, l, got, e, order, errno)
	}
}

// TestRight: P21.1: how many, where they begin, and where they end.
func TestRight(t *testing.T) {
	if !Right(nil) || !Right([]api.Span{}) || !Right(inTurn(1)) || !Right(inTurn(api.MaxCalls)) {
		t.Error("none, one, and MaxCalls may be")
	}
	if Right(inTurn(api.MaxCalls+1)) || Right(inTurn(1000)) {
		t.Error("one more may not be")
	}
	for _, r := range []struct {
		from, to int
		right    bool
	}{
		{0, -1, true}, {5, -1, true}, {math.MaxInt, -1, true},
		{0, 1, true}, {5, 6, true}, {5, 99, true}, {0, math.MaxInt, true}, {math.MaxInt - 1, math.MaxInt, true},
		{0, 0, false}, {5, 5, false}, {math.MaxInt, math.MaxInt, false},
		{5, 4, false}, {5, 0, false}, {math.MaxInt, 0, false}, {1, math.MinInt, false},
		{-1, -1, false}, {-1, 0, false}, {-1, 7, false}, {-2, -1, false}, {math.MinInt, -1, false}, {math.MinInt, 3, false},
		{0, -2, false}, {5, -2, false}, {-3, -2, false}, {0, math.MinInt, false},
	} {
		s := span(api.UpIt, 0, 0, r.from, r.to)
		for at := range 3 {
			l := inTurn(3)
			l[at] = s
			if Right(l) != r.right || Right([]api.Span{s}) != r.right {
				t.Errorf("Right with %d, %d at %d is not %v", r.from, r.to, at, r.right)
			}
		}
	}
}

// TestRightOfAnyCall: P21.1: whatever the calls and answers are, and however the spans stand to each other.
func TestRightOfAnyCall(t *testing.T) {
	l := []api.Span{{Call: api.Call{Kind: 200, Who: -9, Val: notRight}, Answer: notRight, From: 7, To: 8}, {From: 0, To: 9}, {From: 0, To: 9}, {To: -1}}
	if !Right(l) {
		t.Error("they may be")
	}
}

// TestBefore: P21.1: places that are there and that are not, and ends at each side of the other's beginning.
func TestBefore(t *testing.T) {
	l := []api.Span{{From: 0, To: 4}, {From: 3, To: 9}, {From: 4, To: 9}, {From: 5, To: -1}, {From: 9, To: 10}, {From: 0, To: -1}}
	want := map[[2]int]bool{{0, 3}: true, {0, 4}: true}
	for a := -2; a < 9; a++ {
		for b := -2; b < 9; b++ {
			if Before(l, a, b) != want[[2]int{a, b}] {
				t.Errorf("Before(%d, %d) is not %v", a, b, want[[2]int{a, b}])
			}
		}
	}
	for _, at := range []int{math.MinInt, -1, 6, math.MaxInt} {
		if Before(l, 0, at) || Before(l, at, 3) || Before(l, at, at) || Before(nil, at, at) || Before(nil, 0, 0) {
			t.Errorf("there is no place %d", at)
		}
	}
}

// TestBeforeOfAnySpans: P21.1: it does not ask whether they are right, nor how many there are.
func TestBeforeOfAnySpans(t *testing.T) {
	l := append(inTurn(api.MaxCalls+5), api.Span{From: 3, To: -2}, api.Span{From: -1, To: -1})
	if !Before(l, 0, api.MaxCalls+4) || Before(l, api.MaxCalls+4, 0) {
		t.Error("of many")
	}
	if !Before(l, api.MaxCalls+5, 0) || Before(l, api.MaxCalls+6, 0) {
		t.Error("of a To below -1, and of -1")
	}
}

// TestForm: P21.1, P21.2: an object that can't be, and spans that are not right, are told ahead of all else.
func TestForm(t *testing.T) {
	orders := [][]int{nil, {0}, {1, 0}, {7, 7}, {-1}}
	wrong := func(k api.ObjectKind, size int, l []api.Span) {
		t.Helper()
		for _, order := range orders {
			is(t, k, size, l, order, 0, api.ErrForm)
		}
		finds(t, k, size, l, api.ErrForm)
	}
	for _, o := range []struct {
		k    api.ObjectKind
		size int
	}{
		{api.NoObject, 0}, {api.NoObject, 1}, {api.Barrier + 1, 1}, {255, 0},
		{api.Mutex, -1}, {api.Mutex, 1}, {api.Semaphore, -1}, {api.Semaphore, 10},
		{api.Queue, 0}, {api.Queue, api.MaxQueue + 1}, {api.Barrier, 0}, {api.Barrier, api.MaxThreads + 1},
		{api.Queue, math.MinInt}, {api.Semaphore, math.MaxInt},
	} {
		wrong(o.k, o.size, nil)
		wrong(o.k, o.size, inTurn(2))
		wrong(o.k, o.size, inTurn(7))
	}
	for _, s := range []api.Span{span(api.UpIt, 0, api.One, -1, 3), span(api.UpIt, 0, api.One, 3, 3), span(api.UpIt, 0, api.One, 3, -2)} {
		wrong(api.Semaphore, 0, []api.Span{s})
		wrong(api.Semaphore, 0, append(inTurn(1), s))
		wrong(api.Semaphore, 0, append(inTurn(8), s))
	}
	wrong(api.Semaphore, 0, inTurn(api.MaxCalls+1))
	is(t, api.Semaphore, 0, inTurn(api.MaxCalls+1), upTo(api.MaxCalls+1), 0, api.ErrForm)
	is(t, api.Semaphore, 0, inTurn(api.MaxCalls), upTo(api.MaxCalls), 0, api.OK)
}

// TestObjects: P21.1: all objects that can be, at their edges, with no call.
func TestObjects(t *testing.T) {
	for _, o := range []struct {
		k           api.ObjectKind
		least, most int
	}{{api.Mutex, 0, 0}, {api.Semaphore, 0, 9}, {api.Queue, 1, api.MaxQueue}, {api.Barrier, 1, api.MaxThreads}} {
		for size := o.least; size <= o.most; size++ {
			is(t, o.k, size, nil, nil, 0, api.OK)
			is(t, o.k, size, []api.Span{}, []int{}, 0, api.OK)
			is(t, o.k, size, nil, []int{0}, 0, api.ErrRange)
			finds(t, o.k, size, nil, api.OK)
		}
	}
}

// TestRange: P21.1: an order that names what is not there, or one twice, or leaves out one that has ended; that is told ahead of what has a place.
func TestRange(t *testing.T) {
	// 1 has not ended; the answer of 0 can't be.
	l := []api.Span{span(api.UpIt, 0, two, 0, 9), span(api.UpIt, 1, 0, 0, -1), span(api.UpIt, 2, api.One, 0, 9)}
	is(t, api.Semaphore, 0, l, []int{1, 2, 0}, 2, api.ErrAbort)
	is(t, api.Semaphore, 0, l, []int{2, 0}, 1, api.ErrAbort)
	for _, order := range [][]int{
		nil, {}, {0}, {2}, {1}, {1, 2}, {0, 1}, // one that has ended is left out
		{0, 2, 3}, {3, 0, 2}, {0, 2, -1}, {-1, 0, 2}, {0, 2, math.MaxInt}, {math.MinInt, 2, 0}, {0, 3, 2},
		{0, 2, 0}, {0, 0, 2}, {0, 2, 1, 1}, {1, 1, 0, 2}, {2, 2}, {0, 0}, {2, 0, 1, 2},
	} {
		is(t, api.Semaphore, 0, l, order, 0, api.ErrRange)
	}
	many := make([]int, 1<<16)
	is(t, api.Semaphore, 0, l, many, 0, api.ErrRange)
	is(t, api.Semaphore, 0, []api.Span{span(api.UpIt, 1, 0, 0, -1)}, nil, 0, api.OK)
}

// TestOvertaken: P21.1: ErrState, with the place of the first one ahead of which another one had ended.
func TestOvertaken(t *testing.T) {
	// 0 ends ahead of 2, and 1 ahead of 3; 4 has not ended, and had begun behind 0.
	l := []api.Span{
		span(api.UpIt, 0, api.One, 0, 3), span(api.UpIt, 1, api.One, 0, 5), span(api.UpIt, 2, api.One, 4, 9),
		span(api.UpIt, 3, api.One, 6, 9), span(api.UpIt, 0, 0, 5, -1),
	}
	for _, r := range []struct {
		order []int
		place int
		errno api.Errno
	}{
		{[]int{0, 1, 2, 3}, 0, api.OK}, {[]int{1, 0, 3, 2}, 0, api.OK}, {[]int{0, 2, 1, 3}, 0, api.OK},
		{[]int{0, 4, 1, 2, 3}, 0, api.OK}, {[]int{0, 1, 2, 3, 4}, 0, api.OK},
		{[]int{4, 0, 1, 2, 3}, 0, api.ErrState}, {[]int{1, 4, 0, 2, 3}, 1, api.ErrState},
		{[]int{2, 0, 1, 3}, 0, api.ErrState}, {[]int{1, 2, 0, 3}, 1, api.ErrState}, {[]int{1, 2, 3, 0}, 1, api.ErrState},
		{[]int{0, 3, 2, 1}, 1, api.ErrState}, {[]int{3, 2, 1, 0}, 0, api.ErrState}, {[]int{0, 2, 3, 1}, 2, api.ErrState},
	} {
		is(t, api.Semaphore, 0, l, r.order, r.place, r.errno)
	}
}

// TestAtTheSameTime: P21.1: who ends just when another one begins was not before it.
func TestAtTheSameTime(t *testing.T) {
	l := []api.Span{span(api.UpIt, 0, api.One, 0, 4), span(api.UpIt, 0, api.One, 4, 5)}
	is(t, api.Semaphore, 0, l, []int{1, 0}, 0, api.OK)
	l[1].From, l[1].To = 5, 6
	is(t, api.Semaphore, 0, l, []int{1, 0}, 0, api.ErrState)
}

// TestBlocks: P21.1: ErrBusy, of each call that can block; of one that has not ended, too, if the order names it.
func TestBlocks(t *testing.T) {
	lock := []api.Span{span(api.LockIt, 0, api.One, 0, 9), span(api.LockIt, 1, api.One, 0, 9), span(api.UnlockIt, 0, api.One, 0, 9)}
	is(t, api.Mutex, 0, lock, []int{0, 1, 2}, 1, api.ErrBusy)
	is(t, api.Mutex, 0, lock, []int{0, 2, 1}, 0, api.OK)
	down := []api.Span{span(api.DownIt, 0, api.One, 0, 9), span(api.UpIt, 1, api.One, 0, 9)}
	is(t, api.Semaphore, 0, down, []int{0, 1}, 0, api.ErrBusy)
	is(t, api.Semaphore, 1, down, []int{0, 1}, 0, api.OK)
	is(t, api.Semaphore, 0, down, []int{1, 0}, 0, api.OK)
	queue := []api.Span{with(span(api.EnterIt, 0, api.One, 0, 9), two), with(span(api.EnterIt, 1, api.One, 0, 9), three), span(api.TakeIt, 2, two, 0, 9)}
	is(t, api.Queue, 1, queue, []int{0, 1, 2}, 1, api.ErrBusy)
	is(t, api.Queue, 1, queue, []int{2, 0, 1}, 0, api.ErrBusy)
	is(t, api.Queue, 1, queue, []int{0, 2, 1}, 0, api.OK)
	is(t, api.Queue, 2, queue, []int{0, 1, 2}, 0, api.OK)
	meet := []api.Span{span(api.ArriveIt, 0, 0, 0, 9), span(api.ArriveIt, 1, 0, 0, 9), span(api.LeaveIt, 0, api.One, 0, 9)}
	is(t, api.Barrier, 2, meet, []int{0, 2, 1}, 1, api.ErrBusy)
	is(t, api.Barrier, 2, meet, []int{1, 0, 2}, 0, api.OK)
	open := []api.Span{span(api.LockIt, 0, api.One, 0, 9), span(api.LockIt, 1, 0, 0, -1)}
	is(t, api.Mutex, 0, open, []int{0, 1}, 1, api.ErrBusy)
	is(t, api.Mutex, 0, open, []int{1, 0}, 1, api.ErrBusy)
	is(t, api.Mutex, 0, open, []int{0}, 0, api.OK)
}

// TestRefused: P21.1: ErrForm, with its place, of whatever error the object has.
func TestRefused(t *testing.T) {
	good := span(api.LockIt, 0, api.One, 0, 9)
	for _, s := range []api.Span{
		span(api.NoCall, 0, 0, 0, 9), span(api.UpIt, 0, api.One, 0, 9), span(200, 0, api.One, 0, 9),
		span(api.UnlockIt, -1, 0, 0, 9), span(api.UnlockIt, api.MaxThreads, 0, 0, 9),
		with(span(api.UnlockIt, 0, api.One, 0, 9), api.One), with(span(api.UnlockIt, 0, api.One, 0, -1), api.NegZero),
	} {
		is(t, api.Mutex, 0, []api.Span{good, s}, []int{0, 1}, 1, api.ErrForm)
		is(t, api.Mutex, 0, []api.Span{s, good}, []int{0, 1}, 0, api.ErrForm)
	}
	is(t, api.Queue, 1, []api.Span{with(span(api.EnterIt, 0, api.One, 0, 9), notRight)}, []int{0}, 0, api.ErrForm)
}

// TestAnswers: P21.1: ErrAbort, if the answer is another one, to the last bit; the answer of one that has not ended is of no matter.
func TestAnswers(t *testing.T) {
	for _, v := range []api.Val{0, api.One, api.NegZero, api.NaN, api.Infinity, two} {
		in := with(span(api.EnterIt, 0, api.One, 0, 9), v)
		for _, out := range []api.Val{0, api.One, api.NegZero, api.NaN, api.Infinity, two, notRight, math.MaxUint64} {
			l := []api.Span{in, span(api.TakeIt, 1, out, 0, 9)}
			if out == v {
				is(t, api.Queue, 1, l, []int{0, 1}, 0, api.OK)
				finds(t, api.Queue, 1, l, api.OK, 0, 1)
			} else {
				is(t, api.Queue, 1, l, []int{0, 1}, 1, api.ErrAbort)
				finds(t, api.Queue, 1, l, api.ErrNoent)
			}
			l[1].To = -1
			is(t, api.Queue, 1, l, []int{0, 1}, 0, api.OK)
			is(t, api.Queue, 1, l, []int{0}, 0, api.OK)
		}
	}
	is(t, api.Semaphore, 0, []api.Span{span(api.UpIt, 0, 0, 0, 9)}, []int{0}, 0, api.ErrAbort)
	is(t, api.Mutex, 0, []api.Span{span(api.UnlockIt, 0, 0, 0, 9)}, []int{0}, 0, api.OK)
	is(t, api.Mutex, 0, []api.Span{span(api.UnlockIt, 0, api.One, 0, 9)}, []int{0}, 0, api.ErrAbort)
}

// TestFirstTells: P21.1: the first place that is wrong tells why, and of it ErrState ahead of what the object says, and ErrBusy ahead of ErrAbort.
func TestFirstTells(t *testing.T) {
	l := []api.Span{
		span(api.DownIt, 0, two, 5, 9),     // it blocks of 0, and its answer is another one
		span(api.LockIt, 0, api.One, 5, 9), // it has an error
		span(api.UpIt, 0, two, 5, 9),       // its answer is another one
		span(api.UpIt, 0, api.One, 0, 1),   // it had ended when the others began
	}
	for i, e := range []api.Errno{api.ErrBusy, api.ErrForm, api.ErrAbort} {
		is(t, api.Semaphore, 0, l[i:i+1], []int{0}, 0, e)
		is(t, api.Semaphore, 0, []api.Span{l[i], l[3]}, []int{0, 1}, 0, api.ErrState)
		is(t, api.Semaphore, 0, l[:3], []int{i, (i + 1) % 3, (i + 2) % 3}, 0, e)
		is(t, api.Semaphore, 0, l, []int{i, (i + 1) % 3, (i + 2) % 3, 3}, 0, api.ErrState)
	}
	is(t, api.Semaphore, 0, l, []int{3, 0, 1, 2}, 1, api.ErrAbort)
	is(t, api.Semaphore, 0, l, []int{3, 1, 0, 2}, 1, api.ErrForm)
	is(t, api.Semaphore, 0, l, []int{3, 2, 0, 1}, 1, api.ErrAbort)
}

// TestFound: P21.2: no order, one, and several: the least one.
func TestFound(t *testing.T) {
	finds(t, api.Mutex, 0, []api.Span{span(api.LockIt, 0, api.One, 0, 9), span(api.LockIt, 1, api.One, 0, 9)}, api.ErrNoent)
	finds(t, api.Semaphore, 9, inTurn(6), api.OK, 0, 1, 2, 3, 4, 5)
	finds(t, api.Semaphore, 9, inTurn(7), api.ErrSpace)
	finds(t, api.Semaphore, 9, inTurn(api.MaxCalls), api.ErrSpace)
	open := slices.Repeat([]api.Span{span(api.UpIt, 0, 0, 0, -1)}, 7)
	finds(t, api.Semaphore, 9, open, api.ErrSpace)
	finds(t, api.Semaphore, 9, open[:6], api.OK)
	wrong := slices.Repeat([]api.Span{span(api.LockIt, 0, 0, 0, 1)}, 7)
	finds(t, api.Semaphore, 9, wrong, api.ErrSpace)
	finds(t, api.Semaphore, 9, wrong[:6], api.ErrNoent)
	same := slices.Repeat([]api.Span{span(api.UpIt, 0, api.One, 0, 9)}, 6)
	finds(t, api.Semaphore, 9, same, api.OK, 0, 1, 2, 3, 4, 5)
	back := inTurn(6)
	slices.Reverse(back)
	finds(t, api.Semaphore, 9, back, api.OK, 5, 4, 3, 2, 1, 0)
	cross := []api.Span{
		span(api.UnlockIt, 1, api.One, 0, 9), span(api.LockIt, 0, api.One, 0, 9), span(api.LockIt, 1, api.One, 0, 9), span(api.UnlockIt, 0, api.One, 0, 9),
	}
	finds(t, api.Mutex, 0, cross, api.OK, 1, 3, 2, 0)
}

// TestFoundShorter: P21.2: an order comes ahead of those that begin with it; one that has not ended stands in an order where it is needed, or where its place is less.
func TestFoundShorter(t *testing.T) {
	up, down := span(api.UpIt, 0, api.One, 0, 9), span(api.DownIt, 1, api.One, 0, 9)
	openUp, openDown := span(api.UpIt, 2, 0, 0, -1), span(api.DownIt, 3, 0, 0, -1)
	finds(t, api.Semaphore, 0, []api.Span{openUp}, api.OK)
	finds(t, api.Semaphore, 0, []api.Span{up, openUp}, api.OK, 0)
	finds(t, api.Semaphore, 0, []api.Span{up, openDown}, api.OK, 0)
	finds(t, api.Semaphore, 0, []api.Span{openUp, up}, api.OK, 0, 1)
	finds(t, api.Semaphore, 0, []api.Span{openUp, openUp, up}, api.OK, 0, 1, 2)
	finds(t, api.Semaphore, 0, []api.Span{openDown, up}, api.OK, 1)
	finds(t, api.Semaphore, 0, []api.Span{openDown, up, down}, api.OK, 1, 2)
	finds(t, api.Semaphore, 1, []api.Span{openDown, up, down}, api.OK, 0, 1, 2)
	finds(t, api.Semaphore, 0, []api.Span{down, openUp}, api.OK, 1, 0)
	finds(t, api.Semaphore, 0, []api.Span{down, openDown}, api.ErrNoent)
	finds(t, api.Semaphore, 0, []api.Span{span(api.LockIt, 0, 0, 0, -1), up}, api.OK, 1)
}

// TestExample: that of the chapter: with an UnlockIt between there is an order.
func TestExample(t *testing.T) {
	l := []api.Span{span(api.LockIt, 0, api.One, 0, 1), span(api.LockIt, 1, api.One, 2, 3)}
	finds(t, api.Mutex, 0, l, api.ErrNoent)
	is(t, api.Mutex, 0, l, []int{0, 1}, 1, api.ErrBusy)
	is(t, api.Mutex, 0, l, []int{1, 0}, 0, api.ErrState)
	finds(t, api.Mutex, 0, append(l, span(api.UnlockIt, 0, api.One, 0, 9)), api.OK, 0, 2, 1)
	finds(t, api.Mutex, 0, append(l, span(api.UnlockIt, 0, 0, 1, -1)), api.OK, 0, 2, 1)
}

// TestStays: P3: what is handed in stays as it is, spare room too; what is answered is the caller's.
func TestStays(t *testing.T) {
	l := append(make([]api.Span, 0, 9), span(api.DownIt, 0, api.One, 0, 9), span(api.UpIt, 1, api.One, 0, 9))
	order := append(make([]int, 0, 9), 1, 0)
	was, wasOrder := slices.Clone(l[:9]), slices.Clone(order[:9])
	for range 3 {
		is(t, api.Semaphore, 0, l, order, 0, api.OK)
		is(t, api.Semaphore, 0, l, order[:1], 0, api.ErrRange)
		Right(l)
		Before(l, 0, 1)
		got, _ := Found(api.Semaphore, 0, l)
		if !slices.Equal(got, []int{1, 0}) {
			t.Fatal(got)
		}
		got = got[:cap(got)]
		for i := range got {
			got[i] = 77
		}
	}
	if !slices.Equal(l[:9], was) || !slices.Equal(order[:9], wasOrder) {
		t.Error(l[:9], order[:9])
	}
}
