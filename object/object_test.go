package object

import (
	"math"
	"slices"
	"testing"

	"rowlock/api"
	"rowlock/value"
)

// Bits that are not right, and a value that is neither 0 nor One.
const (
	notRight api.Val = 0x7ff8000000000001
	two      api.Val = 0x4000000000000000
)

var (
	isOne   = api.Answer{Val: api.One}
	isZero  = api.Answer{}
	isShut  = api.Answer{Blocks: true}
	isWrong = api.Answer{Errno: api.ErrForm}
)

// sizes are the least and the greatest size of each kind.
var sizes = []struct {
	kind        api.ObjectKind
	least, most int
	calls       []api.CallKind
}{
	{api.Mutex, 0, 0, []api.CallKind{api.LockIt, api.UnlockIt}},
	{api.Semaphore, 0, 9, []api.CallKind{api.DownIt, api.UpIt}},
	{api.Queue, 1, 4, []api.CallKind{api.EnterIt, api.TakeIt}},
	{api.Barrier, 1, 4, []api.CallKind{api.ArriveIt, api.LeaveIt}},
}

// made is an object that can be.
func made(t *testing.T, k api.ObjectKind, size int) *Object {
	t.Helper()
	o := New(k, size)
	if o == nil {
		t.Fatalf("New(%d, %d) is nil", k, size)
	}
	return o
}

// call is one with a value, or with none.
func call(k api.CallKind, who int, v ...api.Val) api.Call {
	c := api.Call{Kind: k, Who: who}
	for _, val := range v {
		c.Val = val
	}
	return c
}

// does holds what a call answers against what it should.
func does(t *testing.T, o *Object, c api.Call, want api.Answer) {
	t.Helper()
	if got := o.Do(c); got != want {
		t.Fatalf("Do(%+v) is %+v, not %+v, at %+v", c, got, want, o.Shape())
	}
}

// sameShape tells whether two shapes are the same.
func sameShape(a, b api.Shape) bool {
	return a.Owner == b.Owner && a.Count == b.Count && a.Gen == b.Gen && slices.Equal(a.Vals, b.Vals)
}

// looks holds an object's shape against what it should be.
func looks(t *testing.T, o *Object, want api.Shape) {
	t.Helper()
	if got := o.Shape(); !sameShape(got, want) {
		t.Fatalf("Shape is %+v, not %+v", got, want)
	}
}

// TestNew: P20.1: the sizes of each kind, those that may be and those that may not, and how it is at first.
func TestNew(t *testing.T) {
	for _, s := range sizes {
		for size := -2; size <= 12; size++ {
			o := New(s.kind, size)
			if may := s.least <= size && size <= s.most; (o != nil) != may {
				t.Errorf("New(%d, %d): %v", s.kind, size, o)
			}
			if o == nil {
				continue
			}
			want := api.Shape{Owner: -1}
			if s.kind == api.Semaphore {
				want.Count = size
			}
			looks(t, o, want)
			if o.Kind() != s.kind {
				t.Errorf("Kind of %d is %d", s.kind, o.Kind())
			}
		}
		for _, size := range []int{math.MinInt, math.MaxInt, 99} {
			if New(s.kind, size) != nil {
				t.Errorf("New(%d, %d) can be", s.kind, size)
			}
		}
	}
	for _, k := range []api.ObjectKind{api.NoObject, api.Barrier + 1, 255} {
		for size := -1; size <= 9; size++ {
			if New(k, size) != nil {
				t.Errorf("New(%d, %d) can be", k, size)
			}
		}
	}
}

// TestTakes: P20.1: each kind takes two calls, and no other.
func TestTakes(t *testing.T) {
	for _, s := range sizes {
		o := made(t, s.kind, s.least)
		for k := range 256 {
			if got, want := o.Takes(api.CallKind(k)), slices.Contains(s.calls, api.CallKind(k)); got != want {
				t.Errorf("kind %d takes %d: %v", s.kind, k, got)
			}
		}
	}
}

// TestNil: what nil answers.
func TestNil(t *testing.T) {
	var o *Object
	for k := range 12 {
		for _, c := range []api.Call{call(api.CallKind(k), 0), call(api.CallKind(k), -1, notRight)} {
			does(t, o, c, api.Answer{Errno: api.ErrNil})
		}
		if o.Takes(api.CallKind(k)) {
			t.Errorf("nil takes %d", k)
		}
	}
	looks(t, o, api.Shape{Owner: -1})
	if o.Kind() != api.NoObject || o.Fork() != nil {
		t.Error("nil has a kind, or a fork")
	}
}

// TestWrongCalls: P20.2: a kind of call that is not its, a Who that is none, a Val that is not right, or not 0: ErrForm, and nothing changes; also where it would block.
func TestWrongCalls(t *testing.T) {
	for _, s := range sizes {
		o := made(t, s.kind, s.most)
		was := o.Shape()
		for k := range 256 {
			if !slices.Contains(s.calls, api.CallKind(k)) {
				does(t, o, call(api.CallKind(k), 0), isWrong)
			}
		}
		for _, k := range s.calls {
			for _, who := range []int{-1, api.MaxThreads, math.MinInt, math.MaxInt} {
				does(t, o, call(k, who), isWrong)
			}
			does(t, o, call(k, 0, notRight), isWrong)
			does(t, o, call(k, 3, notRight|api.NegZero), isWrong)
			if k == api.EnterIt || k == api.LeaveIt {
				continue
			}
			for _, v := range []api.Val{api.One, api.NegZero, api.NaN, 1} {
				does(t, o, call(k, 0, v), isWrong)
			}
		}
		looks(t, o, was)
	}
	// What is wrong comes ahead of what blocks, and of what has no room.
	m := made(t, api.Mutex, 0)
	does(t, m, call(api.LockIt, 2), isOne)
	does(t, m, call(api.LockIt, 1, api.One), isWrong)
	does(t, m, call(api.UnlockIt, 2, api.One), isWrong)
	does(t, m, call(api.LockIt, 4), isWrong)
	looks(t, m, api.Shape{Owner: 2})
	q := made(t, api.Queue, 1)
	does(t, q, call(api.TakeIt, 0, api.NegZero), isWrong)
	does(t, q, call(api.EnterIt, 0, api.NegZero), isOne)
	does(t, q, call(api.EnterIt, 0, notRight), isWrong)
	looks(t, q, api.Shape{Owner: -1, Vals: []api.Val{api.NegZero}})
}

// TestMutex: P20.2: who may lock and unlock; the chapter's example among it.
func TestMutex(t *testing.T) {
	for who := range api.MaxThreads {
		m, other := made(t, api.Mutex, 0), (who+1)%api.MaxThreads
		does(t, m, call(api.UnlockIt, who), isZero)
		looks(t, m, api.Shape{Owner: -1})
		does(t, m, call(api.LockIt, who), isOne)
		looks(t, m, api.Shape{Owner: who})
		does(t, m, call(api.LockIt, other), isShut)
		does(t, m, call(api.LockIt, who), isShut)
		does(t, m, call(api.UnlockIt, other), isZero)
		looks(t, m, api.Shape{Owner: who})
		does(t, m, call(api.UnlockIt, who), isOne)
		looks(t, m, api.Shape{Owner: -1})
		does(t, m, call(api.UnlockIt, who), isZero)
		does(t, m, call(api.LockIt, other), isOne)
		looks(t, m, api.Shape{Owner: other})
	}
}

// TestSemaphore: P20.2: down to 0, where it blocks, and up to 99, where there is no room.
func TestSemaphore(t *testing.T) {
	for size := range 10 {
		s := made(t, api.Semaphore, size)
		for n := size; n > 0; n-- {
			looks(t, s, api.Shape{Owner: -1, Count: n})
			does(t, s, call(api.DownIt, n%4), isOne)
		}
		looks(t, s, api.Shape{Owner: -1})
		does(t, s, call(api.DownIt, 3), isShut)
		does(t, s, call(api.DownIt, 0), isShut)
		for n := range 99 {
			looks(t, s, api.Shape{Owner: -1, Count: n})
			does(t, s, call(api.UpIt, n%4), isOne)
		}
		looks(t, s, api.Shape{Owner: -1, Count: 99})
		does(t, s, call(api.UpIt, 0), api.Answer{Errno: api.ErrSpace})
		does(t, s, call(api.UpIt, 1), api.Answer{Errno: api.ErrSpace})
		looks(t, s, api.Shape{Owner: -1, Count: 99})
		does(t, s, call(api.UpIt, 1, api.One), isWrong)
		does(t, s, call(api.DownIt, 1), isOne)
		does(t, s, call(api.UpIt, 1), isOne)
		looks(t, s, api.Shape{Owner: -1, Count: 99})
	}
}

// TestQueue: P20.2: values of all kinds come out as they went in; it blocks where it is empty, and where it is full.
func TestQueue(t *testing.T) {
	vals := []api.Val{api.NaN, api.NegZero, 0, api.Infinity, two, api.One}
	for size := 1; size <= api.MaxQueue; size++ {
		q := made(t, api.Queue, size)
		does(t, q, call(api.TakeIt, 0), isShut)
		for n := range 20 {
			var in []api.Val
			for i := range size {
				v := vals[(n+i)%len(vals)]
				does(t, q, call(api.EnterIt, i%4, v), isOne)
				in = append(in, v)
				looks(t, q, api.Shape{Owner: -1, Vals: in})
			}
			does(t, q, call(api.EnterIt, 1, two), isShut)
			looks(t, q, api.Shape{Owner: -1, Vals: in})
			does(t, q, call(api.TakeIt, 2), api.Answer{Val: in[0]})
			looks(t, q, api.Shape{Owner: -1, Vals: in[1:]})
			does(t, q, call(api.EnterIt, 3, two), isOne)
			for _, v := range append(in[1:], two) {
				does(t, q, call(api.TakeIt, 1), api.Answer{Val: v})
			}
			does(t, q, call(api.TakeIt, 0), isShut)
			looks(t, q, api.Shape{Owner: -1})
		}
	}
}

// TestBarrier: P20.2: those that arrive are told the generation; the last one opens it.
func TestBarrier(t *testing.T) {
	for size := 1; size <= api.MaxThreads; size++ {
		b := made(t, api.Barrier, size)
		for gen := range 5 {
			g := value.Of(float64(gen))
			for n := range size {
				looks(t, b, api.Shape{Owner: -1, Count: n, Gen: gen})
				does(t, b, call(api.LeaveIt, n, g), isShut)
				does(t, b, call(api.ArriveIt, n), api.Answer{Val: g})
			}
			looks(t, b, api.Shape{Owner: -1, Gen: gen + 1})
			does(t, b, call(api.LeaveIt, 0, g), isOne)
			looks(t, b, api.Shape{Owner: -1, Gen: gen + 1})
		}
	}
}

// TestLeave: P20.2: generations below, at and above, and values that are none: by the order of value.Less.
func TestLeave(t *testing.T) {
	b := made(t, api.Barrier, 1)
	rows := []struct {
		v    api.Val
		gens int // at how many generations from 0 on it blocks
	}{
		{api.Infinity | api.NegZero, 0},
		{value.Of(-1), 0},
		{api.NegZero, 0}, // it is less than 0
		{0, 1},
		{value.Of(0.5), 1},
		{api.One, 2},
		{value.Of(1.5), 2},
		{two, 3},
		{value.Of(3), 4},
		{value.Of(1e300), 5},
		{api.Infinity, 5},
		{api.NaN, 5}, // it is above all
	}
	for gen := range 5 {
		was := b.Shape()
		for _, r := range rows {
			want := isOne
			if gen < r.gens {
				want = isShut
			}
			does(t, b, call(api.LeaveIt, gen%4, r.v), want)
			looks(t, b, was)
		}
		does(t, b, call(api.ArriveIt, 0), api.Answer{Val: value.Of(float64(gen))})
	}
}

// TestAnyoneArrives: who arrives is of no matter, also one that has already.
func TestAnyoneArrives(t *testing.T) {
	b := made(t, api.Barrier, 3)
	for n := range 3 {
		looks(t, b, api.Shape{Owner: -1, Count: n})
		does(t, b, call(api.ArriveIt, 2), isZero)
	}
	looks(t, b, api.Shape{Owner: -1, Gen: 1})
}

// TestStays: P3: what is answered is the caller's.
func TestStays(t *testing.T) {
	q := made(t, api.Queue, 4)
	for _, v := range []api.Val{api.One, two, api.NaN} {
		does(t, q, call(api.EnterIt, 0, v), isOne)
	}
	does(t, q, call(api.TakeIt, 0), isOne)
	s := q.Shape()
	all := s.Vals[:cap(s.Vals)]
	for i := range all {
		all[i] = 7
	}
	looks(t, q, api.Shape{Owner: -1, Vals: []api.Val{two, api.NaN}})
	s = q.Shape()
	does(t, q, call(api.TakeIt, 0), api.Answer{Val: two})
	does(t, q, call(api.EnterIt, 0, api.Infinity), isOne)
	if !slices.Equal(s.Vals, []api.Val{two, api.NaN}) {
		t.Errorf("what was answered has changed: %v", s.Vals)
	}
}

// TestFork: P4: of an object and its Fork, what becomes of the one changes nothing of the other one.
func TestFork(t *testing.T) {
	for _, s := range sizes {
		for n := range 8 {
			o := made(t, s.kind, s.most)
			for i := range n {
				o.Do(call(s.calls[i%3/2], i%4, valFor(s.calls[i%3/2], i)...))
			}
			was, fork := o.Shape(), o.Fork()
			looks(t, fork, was)
			if fork.Kind() != s.kind {
				t.Errorf("the Fork's kind is %d", fork.Kind())
			}
			again := o.Fork()
			spoil(fork, s.calls, 5)
			looks(t, o, was)
			spoil(o, s.calls, 3)
			looks(t, again, was)
		}
	}
}

// valFor is a value that a call may have.
func valFor(k api.CallKind, n int) []api.Val {
	if k == api.EnterIt || k == api.LeaveIt {
		return []api.Val{value.Of(float64(n))}
	}
	return nil
}

// spoil does many calls.
func spoil(o *Object, l []api.CallKind, seed int) {
	for i := range 30 {
		k := l[(i*seed/4)%2]
		o.Do(call(k, (i+seed)%4, valFor(k, i+seed)...))
	}
}
