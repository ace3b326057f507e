package linear

import (
	"slices"
	"testing"

	"rowlock/api"
	"rowlock/object"
)

// numbers draws numbers below n, the same ones for the same seed.
func numbers(seed uint64) func(n int) int {
	return func(n int) int {
		seed = seed*6364136223846793005 + 1442695040888963407
		return int(seed >> 33 % uint64(n))
	}
}

// kinds are the objects, and what they take.
var kinds = []struct {
	k           api.ObjectKind
	least, most int
	calls       []api.CallKind
}{
	{api.Mutex, 0, 0, []api.CallKind{api.LockIt, api.UnlockIt}},
	{api.Semaphore, 0, 2, []api.CallKind{api.DownIt, api.UpIt}},
	{api.Queue, 1, 2, []api.CallKind{api.EnterIt, api.TakeIt}},
	{api.Barrier, 1, 2, []api.CallKind{api.ArriveIt, api.LeaveIt}},
}

// drawnObject is a kind and a size, and what it takes.
func drawnObject(draw func(int) int) (api.ObjectKind, int, []api.CallKind) {
	s := kinds[draw(len(kinds))]
	return s.k, s.least + draw(s.most-s.least+1), s.calls
}

func drawnCall(draw func(int) int, calls []api.CallKind) api.Call {
	c := api.Call{Kind: calls[draw(2)], Who: draw(2)}
	if c.Kind == api.EnterIt || c.Kind == api.LeaveIt {
		c.Val = []api.Val{0, api.One, two}[draw(3)]
	}
	return c
}

// answered are so many calls that came one at a time, each answered by the object; those that block have no part in it.
func answered(draw func(int) int, o *object.Object, calls []api.CallKind, n int) []api.Span {
	var l []api.Span
	for try := 0; len(l) < n && try < 4*n; try++ {
		c := drawnCall(draw, calls)
		if a := o.Do(c); !a.Blocks && a.Errno == api.OK {
			l = append(l, api.Span{Call: c, Answer: a.Val, From: 3 * len(l), To: 3*len(l) + 1})
		}
	}
	return l
}

// drawnSpans are some that often can have been: calls in a row, each of which may have begun earlier and ended later, or not at all; now and then with another answer; in any order.
func drawnSpans(draw func(int) int, k api.ObjectKind, size int, calls []api.CallKind, most int) []api.Span {
	l := answered(draw, object.New(k, size), calls, draw(most+1))
	for i := range l {
		l[i].From = max(0, l[i].From-draw(9))
		l[i].To += draw(9)
		switch draw(12) {
		case 0:
			l[i].Answer = []api.Val{0, api.One, two}[draw(3)]
		case 1:
			l[i].Call = drawnCall(draw, calls)
		case 2, 3:
			l[i].Answer, l[i].To = two, -1
		case 4:
			l[i].Call.Who = draw(5)
		}
	}
	for i := range l {
		j := draw(i + 1)
		l[i], l[j] = l[j], l[i]
	}
	return l
}

// fits is Legal in other words: of spans that are right, all is done anew for each place.
func fits(k api.ObjectKind, size int, l []api.Span, order []int) (int, api.Errno) {
	times := map[int]int{}
	for _, at := range order {
		if at < 0 || at >= len(l) {
			return 0, api.ErrRange
		}
		times[at]++
	}
	for at, s := range l {
		if n := times[at]; n > 1 || n == 0 && s.To >= 0 {
			return 0, api.ErrRange
		}
	}
	for place, at := range order {
		for _, other := range order[place+1:] {
			if l[other].To >= 0 && l[other].To < l[at].From {
				return place, api.ErrState
			}
		}
		o := object.New(k, size)
		for _, ahead := range order[:place] {
			o.Do(l[ahead].Call)
		}
		a := o.Do(l[at].Call)
		if a.Blocks {
			return place, api.ErrBusy
		}
		if a.Errno != api.OK {
			return place, api.ErrForm
		}
		if l[at].To >= 0 && a.Val != l[at].Answer {
			return place, api.ErrAbort
		}
	}
	return 0, api.OK
}

// eachRow yields all rows of different numbers below n, also the empty one, the least first, the shorter first.
func eachRow(n int, row []int, yield func([]int) bool) bool {
	if !yield(row) {
		return false
	}
	for at := range n {
		if !slices.Contains(row, at) && !eachRow(n, append(slices.Clone(row), at), yield) {
			return false
		}
	}
	return true
}

// TestManyOrders: P21.1, P21.2, P21.3: Legal of all orders is as fits says, and Found tells the first one that is Legal.
func TestManyOrders(t *testing.T) {
	draw := numbers(21)
	told, found := map[api.Errno]int{}, map[api.Errno]int{}
	for range 4000 {
		k, size, calls := drawnObject(draw)
		l := drawnSpans(draw, k, size, calls, 4)
		var want []int
		errno := api.ErrNoent
		eachRow(len(l), nil, func(order []int) bool {
			place, e := Legal(k, size, l, order)
			if at, should := fits(k, size, l, order); place != at || e != should {
				t.Fatalf("Legal(%d, %d, %+v, %v) is %d, %d, not %d, %d", k, size, l, order, place, e, at, should)
			}
			told[e]++
			if e == api.OK && errno != api.OK {
				want, errno = order, e
			}
			return true
		})
		finds(t, k, size, l, errno, want...)
		found[errno]++
	}
	for _, e := range []api.Errno{api.OK, api.ErrRange, api.ErrState, api.ErrBusy, api.ErrForm, api.ErrAbort} {
		if told[e] < 100 {
			t.Errorf("Legal: %d: %d times", e, told[e])
		}
	}
	if found[api.OK] < 500 || found[api.ErrNoent] < 500 {
		t.Errorf("Found: %v", found)
	}
}

// TestManyFound: P21.3: of as many spans as may be, what Found tells is Legal, and the least; else none is.
func TestManyFound(t *testing.T) {
	draw := numbers(213)
	found := map[api.Errno]int{}
	for range 1500 {
		k, size, calls := drawnObject(draw)
		l := drawnSpans(draw, k, size, calls, 7)
		order, errno := Found(k, size, l)
		found[errno]++
		switch {
		case len(l) > 6:
			if errno != api.ErrSpace || len(order) != 0 {
				t.Fatalf("Found of %d spans is %v, %d", len(l), order, errno)
			}
			continue
		case errno == api.OK:
			is(t, k, size, l, order, 0, api.OK)
		}
		eachRow(len(l), nil, func(other []int) bool {
			if slices.Equal(other, order) && errno == api.OK {
				return false
			}
			if _, e := Legal(k, size, l, other); e == api.OK {
				t.Fatalf("Found(%d, %d, %+v) is %v, %d, and not %v", k, size, l, order, errno, other)
			}
			return true
		})
	}
	if found[api.OK] < 300 || found[api.ErrNoent] < 300 || found[api.ErrSpace] < 50 {
		t.Errorf("Found: %v", found)
	}
}

// TestOneAtATime: P21.4: calls that came one at a time, and were answered, are Legal in their order, and in no other; where there are at most 6 that is found.
func TestOneAtATime(t *testing.T) {
	draw := numbers(214)
	long := 0
	for range 3000 {
		k, size, calls := drawnObject(draw)
		l := answered(draw, object.New(k, size), calls, draw(api.MaxCalls+1))
		is(t, k, size, l, upTo(len(l)), 0, api.OK)
		if len(l) > 6 {
			finds(t, k, size, l, api.ErrSpace)
		} else {
			finds(t, k, size, l, api.OK, upTo(len(l))...)
		}
		if len(l) == api.MaxCalls {
			long++
		}
		if len(l) > 1 {
			at, order := draw(len(l)-1), upTo(len(l))
			order[at], order[at+1] = at+1, at
			is(t, k, size, l, order, at, api.ErrState)
		}
		if len(l) > 0 {
			at := draw(len(l))
			l[at].Answer ^= 1
			is(t, k, size, l, upTo(len(l)), at, api.ErrAbort)
		}
	}
	if long < 50 {
		t.Errorf("%d had as many calls as may be", long)
	}
}
