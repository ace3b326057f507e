package opaque

import (
	"math"
	"slices"
	"strconv"
	"strings"
	"testing"

	"rowlock/api"
	"rowlock/history"
	"rowlock/value"
)

// notRight is bits of what is no number, which are not right.
const notRight api.Val = 0x7ff8000000000001

// letters are the kinds of events as played tells them.
var letters = map[byte]api.EventKind{
	'b': api.Began, 'r': api.Read, 'w': api.Wrote, 'p': api.Pushed, 'd': api.Dropped,
	'm': api.Merged, 't': api.Tried, 'c': api.Committed, 'a': api.Aborted,
}

// number is a whole number as a value.
func number(n int) api.Val {
	v, ok := value.Int(n)
	if !ok {
		panic(n)
	}
	return v
}

// played are events that a text tells: "b3" is Began of 3, "r3:1=2" is that 3 read 2 of variable 1.
func played(text string) []api.Event {
	var l []api.Event
	for _, word := range strings.Fields(text) {
		name, rest, named := strings.Cut(word[1:], ":")
		e := api.Event{Kind: letters[word[0]], Attempt: whole(name)}
		if named {
			tvar, v, _ := strings.Cut(rest, "=")
			e.Tvar, e.Val = whole(tvar), number(whole(v))
		}
		l = append(l, e)
	}
	return l
}

func whole(s string) int {
	n, err := strconv.Atoi(s)
	if err != nil {
		panic(s)
	}
	return n
}

// zeros are so many values, all 0.
func zeros(n int) []api.Val { return make([]api.Val, n) }

// vals are whole numbers as values.
func vals(l ...int) []api.Val {
	var out []api.Val
	for _, n := range l {
		out = append(out, number(n))
	}
	return out
}

// is holds Legal and Heap against what they should answer.
func is(t *testing.T, l []api.Event, heap []api.Val, order, committed []int, place int, errno api.Errno, behind ...api.Val) {
	t.Helper()
	if at, e := Legal(l, heap, order, committed); at != place || e != errno {
		t.Errorf("Legal(%v, %v, %v, %v) is %d, %d, not %d, %d", l, heap, order, committed, at, e, place, errno)
	}
	if got, e := Heap(l, heap, order, committed); !slices.Equal(got, behind) || e != errno {
		t.Errorf("Heap(%v, %v, %v, %v) is %v, %d, not %v, %d", l, heap, order, committed, got, e, behind, errno)
	}
}

// finds holds Found against what it should answer.
func finds(t *testing.T, l []api.Event, heap []api.Val, committed []int, errno api.Errno, order ...int) {
	t.Helper()
	if got, e := Found(l, heap, committed); !slices.Equal(got, order) || e != errno {
		t.Errorf("Found(%v, %v, %v) is %v, %d, not %v, %d", l, heap, committed, got, e, order, errno)
	}
}

func TestNoEvents(t *testing.T) {
	for _, heap := range [][]api.Val{nil, {}, {number(3), api.NaN}, zeros(api.MaxTvars)} {
		is(t, nil, heap, nil, nil, 0, api.OK, heap...)
		is(t, []api.Event{}, heap, []int{}, []int{}, 0, api.OK, heap...)
		finds(t, nil, heap, nil, api.OK)
		is(t, nil, heap, []int{0}, nil, 0, api.ErrRange)
		is(t, nil, heap, nil, []int{0}, 0, api.ErrRange)
		finds(t, nil, heap, []int{0}, api.ErrRange)
	}
	if s := Serial(nil, nil); len(s) != 0 {
		t.Error(s)
	}
}

// TestForm: what is no history, or no heap, is told ahead of all else (P9.1, P9.2).
func TestForm(t *testing.T) {
	right := played("b0 r0:0=0 t0 b1 w1:0=1 t1 c1")
	events := map[string][]api.Event{
		"not begun":       played("r0:0=0"),
		"begun twice":     played("b0 b0"),
		"no such attempt": {{Kind: api.Began, Attempt: api.MaxAttempts}},
		"below 0":         {{Kind: api.Began, Attempt: -1}},
		"no kind":         {{Kind: api.Began}, {}},
		"kind behind all": {{Kind: api.Began}, {Kind: api.Aborted + 1}},
		"not tried":       played("b0 c0"),
		"no value":        {{Kind: api.Began}, {Kind: api.Wrote, Val: notRight}},
		"too many":        slices.Concat(played("b0"), slices.Repeat(played("r0:0=0"), api.MaxEvents)),
	}
	orders := [][]int{nil, {0}, {0, 1}, {1, 0}, {7, 7}}
	committed := [][]int{nil, {0}, {0, 0}, {9}}
	for name, l := range events {
		for _, order := range orders {
			for _, c := range committed {
				is(t, l, zeros(1), order, c, 0, api.ErrForm)
				finds(t, l, zeros(1), c, api.ErrForm)
			}
		}
		if t.Failed() {
			t.Fatal(name)
		}
	}
	heaps := [][]api.Val{zeros(api.MaxTvars + 1), zeros(1000), {notRight}, {0, 0, math.MaxUint64}, {api.NaN | api.NegZero, 0}}
	for _, heap := range heaps {
		for _, order := range orders {
			for _, c := range committed {
				is(t, right, heap, order, c, 0, api.ErrForm)
				finds(t, right, heap, c, api.ErrForm)
			}
		}
		is(t, nil, heap, nil, nil, 0, api.ErrForm)
		finds(t, nil, heap, nil, api.ErrForm)
	}
}

// TestHeaps: of none, and of all variables that there can be.
func TestHeaps(t *testing.T) {
	is(t, played("b0 b1 t1 c1 a0"), nil, []int{0, 1}, nil, 0, api.OK)
	finds(t, played("b0 b1 t1 c1 a0"), nil, nil, api.OK, 0, 1)
	last := api.MaxTvars - 1
	heap := zeros(api.MaxTvars)
	heap[last] = api.Infinity
	l := []api.Event{{Kind: api.Began}, {Kind: api.Read, Tvar: last, Val: api.Infinity}, {Kind: api.Wrote, Tvar: last, Val: api.NaN}, {Kind: api.Tried}, {Kind: api.Committed}}
	is(t, l, heap, []int{0}, nil, 0, api.OK, append(zeros(last), api.NaN)...)
	is(t, l, heap[:last], []int{0}, nil, 0, api.ErrAbort)
}

// TestRange: orders that are not the attempts, and committed that are not pending. That stands ahead of what is told with a place.
func TestRange(t *testing.T) {
	// 3 is pending, 5 live, 4 committed, 7 aborted; 4 read what never stood there.
	l := played("b3 b5 b4 b7 r4:0=9 t3 t4 c4 t7 a7")
	good := []int{3, 5, 4, 7}
	is(t, l, zeros(1), good, nil, 2, api.ErrAbort)
	is(t, l, zeros(1), good, []int{3}, 2, api.ErrAbort)
	for _, order := range [][]int{nil, {}, {3, 5, 4}, {5, 4, 7}, {3, 5, 4, 7, 3}, {3, 5, 4, 4}, {3, 3, 3, 3}, {4, 4, 4, 3, 5, 7}, {3, 5, 4, 0}, {3, 5, 4, -1},
		{3, 5, 4, 7, 6}, {3, 5, 4, api.MaxAttempts}, {3, 5, 4, math.MinInt}, {math.MaxInt, 5, 4, 7}} {
		is(t, l, zeros(1), order, nil, 0, api.ErrRange)
		is(t, l, zeros(1), order, []int{3}, 0, api.ErrRange)
	}
	for _, committed := range [][]int{{5}, {4}, {7}, {0}, {-1}, {3, 3}, {3, 5}, {3, 4}, {7, 3}, {api.MaxAttempts}, {math.MinInt}, {math.MaxInt}} {
		is(t, l, zeros(1), good, committed, 0, api.ErrRange)
		finds(t, l, zeros(1), committed, api.ErrRange)
	}
	two := played("b0 b1 t1 t0")
	for _, committed := range [][]int{nil, {0}, {1}, {0, 1}, {1, 0}} {
		is(t, two, nil, []int{1, 0}, committed, 0, api.OK)
		finds(t, two, nil, committed, api.OK, 0, 1)
	}
}

// TestOvertaken: nobody stands ahead of one that had ended when it began.
func TestOvertaken(t *testing.T) {
	// 0 ends ahead of 2, by an abort; 1 ends ahead of 3, by a commit.
	l := played("b0 b1 a0 b2 t1 c1 b3")
	for _, r := range []struct {
		order []int
		place int
		errno api.Errno
	}{
		{[]int{0, 1, 2, 3}, 0, api.OK},
		{[]int{1, 0, 3, 2}, 0, api.OK},
		{[]int{0, 2, 1, 3}, 0, api.OK},
		{[]int{2, 0, 1, 3}, 0, api.ErrState},
		{[]int{1, 2, 0, 3}, 1, api.ErrState},
		{[]int{0, 3, 2, 1}, 1, api.ErrState},
		{[]int{1, 2, 3, 0}, 1, api.ErrState},
		{[]int{3, 2, 1, 0}, 0, api.ErrState},
		{[]int{0, 2, 3, 1}, 2, api.ErrState},
	} {
		is(t, l, nil, r.order, nil, r.place, r.errno)
	}
}

// TestFirstPlaceTells: the first one that can't stand tells why, and of it ErrState ahead of ErrAbort.
func TestFirstPlaceTells(t *testing.T) {
	l := played("b0 r0:0=5 a0 b1 r1:0=7 a1 b2")
	is(t, l, zeros(1), []int{0, 1, 2}, nil, 0, api.ErrAbort)
	is(t, l, zeros(1), []int{0, 2, 1}, nil, 0, api.ErrAbort)
	is(t, l, zeros(1), []int{1, 0, 2}, nil, 0, api.ErrState)
	is(t, l, vals(5), []int{0, 1, 2}, nil, 1, api.ErrAbort)
	is(t, l, vals(5), []int{0, 2, 1}, nil, 1, api.ErrState)
	is(t, l, vals(7), []int{1, 0, 2}, nil, 0, api.ErrState)
}

// TestOwn: an attempt that did not read of its own log what stands there.
func TestOwn(t *testing.T) {
	for _, end := range []string{"", " t1", " t1 c1", " a1"} {
		good, bad := played("b0 b1 w1:0=2 r1:0=2"+end), played("b0 b1 w1:0=2 r1:0=3"+end)
		behind := vals(0)
		if strings.Contains(end, "c") {
			behind = vals(2)
		}
		is(t, good, zeros(1), []int{0, 1}, nil, 0, api.OK, behind...)
		is(t, bad, zeros(1), []int{0, 1}, nil, 1, api.ErrAbort)
		is(t, bad, zeros(1), []int{1, 0}, nil, 0, api.ErrAbort)
		finds(t, bad, zeros(1), nil, api.ErrNoent)
		is(t, played("b0 b1 w1:0=2 r1:0=0"+end), zeros(1), []int{0, 1}, nil, 1, api.ErrAbort)
	}
	is(t, played("b0 p0 w0:0=2 d0 r0:0=0"), zeros(1), []int{0}, nil, 0, api.OK, 0)
	is(t, played("b0 p0 w0:0=2 d0 r0:0=2"), zeros(1), []int{0}, nil, 0, api.ErrAbort)
	is(t, played("b0 p0 w0:0=2 m0 r0:0=2"), zeros(1), []int{0}, nil, 0, api.OK, 0)
}

// TestReads: each attempt read what stood there then, also one that is aborted, or has not ended.
func TestReads(t *testing.T) {
	for _, end := range []string{"", " t0", " t0 a0", " a0", " t0 c0"} {
		l := played("b0 b1 r1:0=0 w1:0=4 t1 c1 r0:0=4 r0:1=0" + end)
		is(t, l, zeros(2), []int{1, 0}, nil, 0, api.OK, vals(4, 0)...)
		is(t, l, zeros(2), []int{0, 1}, nil, 0, api.ErrAbort)
		finds(t, l, zeros(2), nil, api.OK, 1, 0)
		is(t, l, vals(4, 0), []int{0, 1}, nil, 1, api.ErrAbort)
		finds(t, l, vals(4, 0), nil, api.ErrNoent)
		is(t, l, vals(0, 1), []int{1, 0}, nil, 1, api.ErrAbort)
	}
	// Each read counts, not only the first one of a variable.
	is(t, played("b0 r0:0=0 r0:0=1"), zeros(1), []int{0}, nil, 0, api.ErrAbort)
	is(t, played("b0 r0:0=0 r0:0=1"), vals(1), []int{0}, nil, 0, api.ErrAbort)
}

// TestReadsBits: the sign of a zero counts, and NaN is what it is.
func TestReadsBits(t *testing.T) {
	all := []api.Val{0, api.NegZero, api.NaN, api.Infinity, api.One, 1}
	for _, stood := range all {
		for _, read := range all {
			l := []api.Event{{Kind: api.Began}, {Kind: api.Read, Val: read}}
			if stood == read {
				is(t, l, []api.Val{stood}, []int{0}, nil, 0, api.OK, stood)
			} else {
				is(t, l, []api.Val{stood}, []int{0}, nil, 0, api.ErrAbort)
			}
		}
	}
}

// TestOutsideHeap: what an attempt read or wrote must be in the heap, whatever became of it; what it dropped is neither.
func TestOutsideHeap(t *testing.T) {
	for _, end := range []string{"", " t1", " t1 c1", " a1"} {
		for _, middle := range []string{" r1:2=0", " w1:2=0", " w1:1=0 w1:2=0", " r1:1=0 r1:2=0", " w1:2=0 r1:2=0", " p1 w1:2=0 m1"} {
			l := played("b0 b1" + middle + end)
			is(t, l, zeros(3), []int{0, 1}, nil, 0, api.OK, zeros(3)...)
			is(t, l, zeros(2), []int{0, 1}, nil, 1, api.ErrAbort)
			is(t, l, nil, []int{1, 0}, nil, 0, api.ErrAbort)
			finds(t, l, zeros(2), nil, api.ErrNoent)
		}
		is(t, played("b0 b1 p1 w1:2=5 r1:2=5 d1"+end), zeros(2), []int{0, 1}, nil, 0, api.OK, zeros(2)...)
	}
	is(t, played("b1 p1 w1:2=0"), zeros(2), []int{1}, nil, 0, api.ErrAbort)
}

// TestCommitted: whose writes stand in the heap behind.
func TestCommitted(t *testing.T) {
	l := played("b0 b1 b2 b3 w0:0=1 w1:1=2 w2:2=3 w3:3=4 t0 t1 t2 c2 t3 a3")
	order := []int{0, 1, 2, 3}
	is(t, l, zeros(4), order, nil, 0, api.OK, vals(0, 0, 3, 0)...)
	is(t, l, zeros(4), order, []int{0}, 0, api.OK, vals(1, 0, 3, 0)...)
	is(t, l, zeros(4), order, []int{1}, 0, api.OK, vals(0, 2, 3, 0)...)
	is(t, l, zeros(4), order, []int{1, 0}, 0, api.OK, vals(1, 2, 3, 0)...)
	live := played("b0 w0:0=1 b1 w1:0=2 w1:1=3 w1:0=4 t1 c1")
	is(t, live, zeros(2), []int{0, 1}, nil, 0, api.OK, vals(4, 3)...)
	is(t, live, zeros(2), []int{1, 0}, nil, 0, api.OK, vals(4, 3)...)
	// Which one stands there in the end hangs on the order.
	both := played("b0 b1 w0:0=1 w1:0=2 t0 t1 c1 c0")
	is(t, both, zeros(1), []int{0, 1}, nil, 0, api.OK, vals(2)...)
	is(t, both, zeros(1), []int{1, 0}, nil, 0, api.OK, vals(1)...)
	// A reader behind a pending one.
	seen := played("b0 w0:0=1 t0 b1 r1:0=1")
	is(t, seen, zeros(1), []int{0, 1}, []int{0}, 0, api.OK, vals(1)...)
	is(t, seen, zeros(1), []int{0, 1}, nil, 1, api.ErrAbort)
	is(t, seen, zeros(1), []int{1, 0}, []int{0}, 0, api.ErrAbort)
	finds(t, seen, zeros(1), []int{0}, api.OK, 0, 1)
	finds(t, seen, zeros(1), nil, api.ErrNoent)
}

// TestLostUpdate: the chapter's example.
func TestLostUpdate(t *testing.T) {
	l := played("b0 b1 r0:1=0 r1:1=0 w0:1=1 w1:1=1 t0 t1 c0 c1")
	finds(t, l, zeros(2), nil, api.ErrNoent)
	is(t, l, zeros(2), []int{0, 1}, nil, 1, api.ErrAbort)
	is(t, l, zeros(2), []int{1, 0}, nil, 1, api.ErrAbort)
}

// TestFoundMany: 6 attempts are looked at, 7 are not.
func TestFoundMany(t *testing.T) {
	// Each read what the one that began behind it wrote: just the order from the last one on is Legal.
	text := ""
	for i := range 6 {
		text += " b" + strconv.Itoa(i+10)
	}
	for i := range 6 {
		n := strconv.Itoa(i + 10)
		text += " r" + n + ":0=" + strconv.Itoa(5-i) + " w" + n + ":0=" + strconv.Itoa(6-i)
	}
	for i := range 6 {
		text += " t" + strconv.Itoa(i+10)
	}
	six := played(text)
	all := []int{10, 11, 12, 13, 14, 15}
	finds(t, six, zeros(1), all, api.OK, 15, 14, 13, 12, 11, 10)
	finds(t, six, zeros(1), all[1:], api.OK, 15, 14, 13, 12, 11, 10)
	finds(t, six, zeros(1), all[:5], api.ErrNoent)
	finds(t, six, nil, all, api.ErrNoent)
	finds(t, six, vals(9), all, api.ErrNoent)
	seven := slices.Concat(six, played("b0"))
	finds(t, seven, zeros(1), all, api.ErrSpace)
	finds(t, seven, nil, all, api.ErrSpace)
	finds(t, seven, zeros(1), []int{0}, api.ErrRange)
	finds(t, seven, []api.Val{notRight}, all, api.ErrForm)
	is(t, seven, zeros(1), []int{15, 14, 13, 12, 11, 10, 0}, all, 0, api.OK, vals(6)...)
	finds(t, played("b0 b1 b2 b3 b4 b5 b6"), nil, nil, api.ErrSpace)
	finds(t, played("b0 b1 b2 b3 b4 b5"), nil, nil, api.OK, 0, 1, 2, 3, 4, 5)
}

// TestFoundFirst: of several orders the least one by places in history.Attempts, not by numbers.
func TestFoundFirst(t *testing.T) {
	finds(t, played("b5 b2 b9 b0"), nil, nil, api.OK, 5, 2, 9, 0)
	// 2 must stand behind 9, and 5 ahead of it.
	finds(t, played("b5 b2 b9 b0 w9:0=1 t9 c9 r2:0=1 r5:0=0"), zeros(1), nil, api.OK, 5, 9, 2, 0)
	finds(t, played("b5 b2 b9 b0 w9:0=1 t9 c9 r5:0=1"), zeros(1), nil, api.OK, 2, 9, 5, 0)
	// Beginnings that can stand, but not with all others behind them: 1, 3 and 1 alone.
	finds(t, played("b1 b3 b4 w3:0=1 t3 c3 r4:0=0 r4:1=2 w1:1=2 t1 c1"), zeros(2), nil, api.OK, 1, 4, 3)
	finds(t, played("b1 b3 b4 w1:0=1 w3:1=1 r4:0=0 r4:1=1 t1 c1 t3 c3"), zeros(2), nil, api.OK, 3, 4, 1)
}

func TestSerial(t *testing.T) {
	l := played("b0 b1 r0:0=1 w1:1=2 p0 t1 d0 c1")
	zero, one := played("b0 r0:0=1 p0 d0"), played("b1 w1:1=2 t1 c1")
	for _, r := range []struct {
		order []int
		want  []api.Event
	}{
		{nil, nil},
		{[]int{}, nil},
		{[]int{0}, zero},
		{[]int{1}, one},
		{[]int{0, 1}, slices.Concat(zero, one)},
		{[]int{1, 0}, slices.Concat(one, zero)},
		{[]int{1, 0, 1, 1}, slices.Concat(one, zero, one, one)},
		{[]int{7, -1, api.MaxAttempts, math.MinInt, math.MaxInt}, nil},
		{[]int{-1, 0, 7, 1}, slices.Concat(zero, one)},
	} {
		if got := Serial(l, r.order); !slices.Equal(got, r.want) {
			t.Errorf("Serial of %v is %v, not %v", r.order, got, r.want)
		}
	}
	wrong := []api.Event{{Kind: api.Committed, Attempt: -1, Tvar: 99, Val: notRight}, {Kind: 77, Attempt: 1000}, {Attempt: -1}}
	if got := Serial(wrong, []int{1000, -1, -1}); !slices.Equal(got, []api.Event{wrong[1], wrong[0], wrong[2], wrong[0], wrong[2]}) {
		t.Error(got)
	}
}

// TestArgumentsStay: what is handed in stays, and what is answered lies nowhere else (P3).
func TestArgumentsStay(t *testing.T) {
	l := played("b0 b1 w1:0=4 t1 c1 r0:0=4 t0 b2")
	heap, order, committed := vals(0, 3), []int{1, 0, 2}, []int{0}
	events := append(make([]api.Event, 0, 20), l...)
	events = append(events, events...)[:len(l)]
	room := func(o []int) []int { return append(append(make([]int, 0, 9), o...), 7, 7, 7)[:len(o)] }
	givenHeap := append(append(make([]api.Val, 0, 9), heap...), 9, 9)[:len(heap)]
	givenOrder, givenCommitted := room(order), room(committed)
	for range 2 {
		is(t, events, givenHeap, givenOrder, givenCommitted, 0, api.OK, vals(4, 3)...)
		finds(t, events, givenHeap, givenCommitted, api.OK, 1, 0, 2)
		behind, _ := Heap(events, givenHeap, givenOrder, givenCommitted)
		same, _ := Heap(played("b0"), givenHeap, []int{0}, nil)
		found, _ := Found(events, givenHeap, givenCommitted)
		serial := Serial(events, givenOrder)
		one := Serial(events, []int{0})
		spoil(behind, 99)
		spoil(same, 99)
		spoil(found, 99)
		spoil(serial, api.Event{Kind: 99})
		spoil(one, api.Event{Kind: 99})
	}
	if !slices.Equal(events[:len(l)*2], append(l, l...)) || !slices.Equal(givenHeap[:4], append(heap, 9, 9)) {
		t.Error(events, givenHeap)
	}
	if !slices.Equal(givenOrder[:6], append(order, 7, 7, 7)) || !slices.Equal(givenCommitted[:4], append(committed, 7, 7, 7)) {
		t.Error(givenOrder, givenCommitted)
	}
}

// spoil writes over a list, up to its capacity.
func spoil[T any](l []T, by T) {
	l = l[:cap(l)]
	for i := range l {
		l[i] = by
	}
}

// numbers are whole numbers below n, one behind the other, the same ones at each run.
func numbers(x uint64) func(n int) int {
	return func(n int) int {
		x = x*6364136223846793005 + 1442695040888963407
		return int((x >> 33) % uint64(n))
	}
}

// drawn are right events of some attempts, of small numbers, so that many have an order.
func drawn(below func(int) int, attempts, tvars, n int) []api.Event {
	var l []api.Event
	for range n {
		e := api.Event{Kind: api.EventKind(1 + below(int(api.Aborted))), Attempt: 2 * below(attempts)}
		if below(3) == 0 {
			e.Kind = api.Began
		}
		if e.Kind == api.Read || e.Kind == api.Wrote {
			e.Tvar, e.Val = below(tvars), number(below(2))
		}
		if more := append(l, e); history.Right(more) {
			l = more
		}
	}
	return l
}

// some are those of l that are drawn, in an order that is drawn.
func some(below func(int) int, l []int) []int {
	var out []int
	for _, a := range shuffled(below, l) {
		if below(2) == 0 {
			out = append(out, a)
		}
	}
	return out
}

func shuffled(below func(int) int, l []int) []int {
	l = slices.Clone(l)
	for i := range l {
		j := i + below(len(l)-i)
		l[i], l[j] = l[j], l[i]
	}
	return l
}

// legal is Legal, and Heap, by the chapter's words, of right events, a heap, and an order that may be.
func legal(l []api.Event, heap []api.Val, order, committed []int) (int, api.Errno, []api.Val) {
	heap = slices.Clone(heap)
	for i, a := range order {
		for _, b := range order[i+1:] {
			if history.Before(l, b, a) {
				return i, api.ErrState, nil
			}
		}
		ok := history.Own(l, a)
		for _, p := range history.Reads(l, a) {
			ok = ok && p.Tvar < len(heap) && heap[p.Tvar] == p.Val
		}
		for _, p := range history.Writes(l, a) {
			ok = ok && p.Tvar < len(heap)
		}
		if !ok {
			return i, api.ErrAbort, nil
		}
		if history.StateOf(l, a) != api.Success && !slices.Contains(committed, a) {
			continue
		}
		for _, p := range history.Writes(l, a) {
			heap[p.Tvar] = p.Val
		}
	}
	return 0, api.OK, heap
}

// orders are all of them, the least first.
func orders(l []int) [][]int {
	if len(l) == 0 {
		return [][]int{nil}
	}
	var all [][]int
	for i, first := range l {
		for _, rest := range orders(slices.Concat(l[:i], l[i+1:])) {
			all = append(all, append([]int{first}, rest...))
		}
	}
	return all
}

// TestManyHistories holds all calls against the chapter's words, over many histories, in all of their orders; what Found tells is Legal (P9.4).
func TestManyHistories(t *testing.T) {
	below := numbers(5)
	answers := make(map[api.Errno]int)
	for range 3000 {
		l := drawn(below, 1+below(5), 1+below(2), below(40))
		heap := vals(below(2), below(2))[:1+below(2)]
		committed := some(below, history.In(l, api.Pending))
		var first []int
		found := api.ErrNoent
		for _, order := range orders(history.Attempts(l)) {
			place, errno, behind := legal(l, heap, order, committed)
			is(t, l, heap, order, committed, place, errno, behind...)
			if errno == api.OK && found != api.OK {
				first, found = order, api.OK
			}
			answers[errno]++
		}
		finds(t, l, heap, committed, found, first...)
		answers[100+found]++
		if t.Failed() {
			return
		}
	}
	for _, errno := range []api.Errno{api.OK, api.ErrState, api.ErrAbort, 100 + api.OK, 100 + api.ErrNoent} {
		if answers[errno] < 100 {
			t.Errorf("%d was told only %d times", errno, answers[errno])
		}
	}
}

// TestSerialIsRight: of right events and attempts that are each once Serial is right, and has the order of itself (P9.3).
func TestSerialIsRight(t *testing.T) {
	below := numbers(9)
	for range 2000 {
		l := drawn(below, 1+below(8), 2, below(60))
		order := some(below, history.Attempts(l))
		s := Serial(l, order)
		if !history.Right(s) || !slices.Equal(history.Attempts(s), order) {
			t.Fatalf("Serial of %v, %v is %v", l, order, s)
		}
		for _, a := range order {
			if !slices.Equal(history.Cut(s, a), history.Cut(l, a)) {
				t.Fatalf("Serial of %v, %v is %v", l, order, s)
			}
		}
	}
}

// TestAbortedChangeNothing: with aborted attempts, and without them, the heap is the same (P9.5).
func TestAbortedChangeNothing(t *testing.T) {
	below := numbers(21)
	seen := 0
	for range 4000 {
		l := drawn(below, 1+below(5), 2, below(40))
		heap := vals(below(2), below(2))
		committed := some(below, history.In(l, api.Pending))
		order, e := Found(l, heap, committed)
		failed := history.In(l, api.Failure)
		if e != api.OK || len(failed) == 0 {
			continue
		}
		seen++
		gone := func(a int) bool { return slices.Contains(failed, a) }
		with, _ := Heap(l, heap, order, committed)
		without, e := Heap(slices.DeleteFunc(slices.Clone(l), func(e api.Event) bool { return gone(e.Attempt) }), heap, slices.DeleteFunc(slices.Clone(order), gone), committed)
		if e != api.OK || !slices.Equal(with, without) {
			t.Fatalf("%v: %v, and without %v: %v, %d", l, with, failed, without, e)
		}
	}
	if seen < 200 {
		t.Errorf("only %d were looked at", seen)
	}
}

// TestLimits: MaxAttempts attempts, and MaxEvents events, are no more than may be.
func TestLimits(t *testing.T) {
	var l []api.Event
	var order []int
	for i := range api.MaxAttempts {
		n := strconv.Itoa(i)
		l = append(l, played("b"+n+" r"+n+":0="+n+" w"+n+":0="+strconv.Itoa(i+1)+" t"+n+" c"+n)...)
		order = append(order, i)
	}
	is(t, l, zeros(1), order, nil, 0, api.OK, vals(api.MaxAttempts)...)
	finds(t, l, zeros(1), nil, api.ErrSpace)
	slices.Reverse(order)
	is(t, l, zeros(1), order, nil, 0, api.ErrState)
	long := slices.Concat(played("b0"), slices.Repeat(played("r0:0=0"), api.MaxEvents-1))
	is(t, long, zeros(1), []int{0}, nil, 0, api.OK, 0)
	finds(t, long, zeros(1), nil, api.OK, 0)
	is(t, slices.Concat(long, played("r0:0=0")), zeros(1), []int{0}, nil, 0, api.ErrForm)
}
