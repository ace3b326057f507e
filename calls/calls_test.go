package calls

import (
	"math"
	"slices"
	"testing"

	"rowlock/api"
	"rowlock/flows"
	"rowlock/locks"
	"rowlock/object"
	"rowlock/spec"
	"rowlock/value"
	"rowlock/verify"
)

const notRight api.Val = 0x7ff8000000000001

// kinds are the least and the greatest size of each kind, its calls, and how many variables it has beside size places of a queue.
var kinds = []struct {
	kind        api.ObjectKind
	least, most int
	calls       [2]api.CallKind
	tvars       int
}{
	{api.Mutex, 0, 0, [2]api.CallKind{api.LockIt, api.UnlockIt}, 1},
	{api.Semaphore, 0, 9, [2]api.CallKind{api.DownIt, api.UpIt}, 1},
	{api.Queue, 1, 4, [2]api.CallKind{api.EnterIt, api.TakeIt}, 2},
	{api.Barrier, 1, 4, [2]api.CallKind{api.ArriveIt, api.LeaveIt}, 2},
}

// needs is how many variables an object has.
func needs(k api.ObjectKind, size int) int {
	n := kinds[k-1].tvars
	if k == api.Queue {
		n += size
	}
	return n
}

var strange = []int{math.MinInt, math.MinInt + 1, -99, 13, 99, math.MaxInt - 2, math.MaxInt - 1, math.MaxInt}

// TestTvarsAndBegin: P24.1: of each kind, of sizes that may and may not be.
func TestTvarsAndBegin(t *testing.T) {
	var sizes []int
	for size := -2; size <= 12; size++ {
		sizes = append(sizes, size)
	}
	for _, s := range kinds {
		for _, size := range append(sizes, strange...) {
			n := Tvars(s.kind, size)
			heap, e := Begin(s.kind, size)
			if size < s.least || size > s.most {
				if n != 0 || len(heap) != 0 || e != api.ErrForm {
					t.Errorf("Tvars and Begin(%d, %d): %d, %v, %d", s.kind, size, n, heap, e)
				}
				continue
			}
			want := make([]api.Val, needs(s.kind, size))
			if s.kind == api.Semaphore {
				want[0] = value.Of(float64(size))
			}
			if n != len(want) || e != api.OK || !slices.Equal(heap, want) {
				t.Errorf("Tvars and Begin(%d, %d): %d, %v, %d", s.kind, size, n, heap, e)
			}
		}
	}
	for _, k := range []api.ObjectKind{api.NoObject, api.Barrier + 1, 255} {
		for _, size := range append(sizes, strange...) {
			if heap, e := Begin(k, size); Tvars(k, size) != 0 || len(heap) != 0 || e != api.ErrForm {
				t.Errorf("Tvars and Begin(%d, %d): %d, %v, %d", k, size, Tvars(k, size), heap, e)
			}
		}
	}
}

// TestBeginIsNew: P3: what is answered is the caller's.
func TestBeginIsNew(t *testing.T) {
	for _, s := range kinds {
		first, _ := Begin(s.kind, s.most)
		was := slices.Clone(first)
		for i := range first {
			first[i] = 99
		}
		if again, _ := Begin(s.kind, s.most); !slices.Equal(again, was) {
			t.Errorf("Begin(%d) is %v behind a change of its answer", s.kind, again)
		}
	}
}

// by are calls of one thread. Those that need a value have api.One.
func by(who int, l ...api.CallKind) []api.Call {
	var all []api.Call
	for _, k := range l {
		c := api.Call{Kind: k, Who: who}
		if k == api.EnterIt || k == api.LeaveIt {
			c.Val = api.One
		}
		all = append(all, c)
	}
	return all
}

var (
	halt = api.Ins{Op: api.Halt}
	out  = api.Ins{Op: api.Out}
	one  = api.Ins{Op: api.Push, Val: api.One}
)

// told is the program that the chapter tells.
func told(t *testing.T, size, tvar int, l []api.Call) []api.Ins {
	t.Helper()
	var p []api.Ins
	add := func(l []api.Ins, e api.Errno, behind ...api.Ins) {
		t.Helper()
		if e != api.OK {
			t.Fatalf("a block at %d: %d", len(p), e)
		}
		p = append(append(p, l...), behind...)
	}
	for _, c := range l {
		var b []api.Ins
		var e api.Errno
		switch c.Kind {
		case api.LockIt:
			b, e = locks.Lock(len(p), tvar, c.Who)
			add(b, e, one, out)
		case api.UnlockIt:
			b, e = locks.Unlock(len(p), tvar, c.Who)
			add(b, e, out)
		case api.DownIt:
			b, e = locks.Down(len(p), tvar)
			add(b, e, one, out)
		case api.UpIt:
			b, e = locks.Up(len(p), tvar)
			add(b, e, one, out)
		case api.EnterIt:
			b, e = flows.Enter(len(p), tvar, size, c.Val)
			add(b, e, one, out)
		case api.TakeIt:
			b, e = flows.Take(len(p), tvar, size)
			add(b, e, out)
		case api.ArriveIt:
			b, e = flows.Arrive(len(p), tvar, size)
			add(b, e, out)
		case api.LeaveIt:
			p = append(p, api.Ins{Op: api.Push, Val: c.Val}, api.Ins{Op: api.SetLocal, Arg: 0})
			b, e = flows.Leave(len(p), tvar, 0)
			add(b, e, one, out)
		}
	}
	return append(p, halt)
}

// is holds a program against what it should be.
func is(t *testing.T, k api.ObjectKind, size, tvar, who int, l []api.Call) {
	t.Helper()
	p, e := Program(k, size, tvar, who, l)
	if want := told(t, size, tvar, l); e != api.OK || !slices.Equal(p, want) {
		t.Fatalf("Program(%d, %d, %d, %d, %v) is %v, %d, not %v", k, size, tvar, who, l, p, e, want)
	}
}

// fails holds a program against an error.
func fails(t *testing.T, k api.ObjectKind, size, tvar, who int, l []api.Call, want api.Errno) {
	t.Helper()
	if p, e := Program(k, size, tvar, who, l); e != want || len(p) != 0 {
		t.Errorf("Program(%d, %d, %d, %d, %v) is %v, %d, not %d", k, size, tvar, who, l, p, e, want)
	}
}

// TestPrograms: P24.1: of no call, of each call, and of two, of each size, variable and thread.
func TestPrograms(t *testing.T) {
	for _, s := range kinds {
		for size := s.least; size <= s.most; size++ {
			for tvar := 0; tvar+needs(s.kind, size) <= api.MaxTvars; tvar++ {
				for who := range api.MaxThreads {
					is(t, s.kind, size, tvar, who, nil)
					is(t, s.kind, size, tvar, who, []api.Call{})
					for _, a := range s.calls {
						is(t, s.kind, size, tvar, who, by(who, a))
						for _, b := range s.calls {
							is(t, s.kind, size, tvar, who, by(who, a, b))
						}
					}
				}
			}
		}
	}
	for _, v := range []api.Val{0, api.NegZero, api.NaN, api.Infinity, 1} {
		is(t, api.Queue, 3, 2, 1, []api.Call{{Kind: api.EnterIt, Who: 1, Val: v}})
		is(t, api.Barrier, 3, 2, 1, []api.Call{{Kind: api.LeaveIt, Who: 1, Val: v}})
	}
}

// TestWholeProgram: P24.1: two of them, written out.
func TestWholeProgram(t *testing.T) {
	get, put := api.Ins{Op: api.Get, Arg: 5}, api.Ins{Op: api.Put, Arg: 5}
	p, e := Program(api.Mutex, 0, 5, 2, by(2, api.LockIt, api.UnlockIt))
	want := []api.Ins{
		{Op: api.Atomic, Arg: 6}, get, {Op: api.IfZero, Arg: 4}, {Op: api.Retry}, {Op: api.Push, Val: value.Of(3)}, put, {Op: api.End}, one, out,
		{Op: api.Atomic, Arg: 19}, get, {Op: api.Push, Val: value.Of(3)}, {Op: api.Same}, {Op: api.IfZero, Arg: 18}, {Op: api.Push}, put, one, {Op: api.Jump, Arg: 19}, {Op: api.Push}, {Op: api.End}, out,
		halt,
	}
	if e != api.OK || !slices.Equal(p, want) {
		t.Errorf("it is %v, %d, not %v", p, e, want)
	}
	leave := []api.Ins{{Op: api.Push, Val: api.NaN}, {Op: api.SetLocal}, {Op: api.Atomic, Arg: 9}, {Op: api.Local}, {Op: api.Get, Arg: 6}, {Op: api.Less}, {Op: api.IfZero, Arg: 8}, {Op: api.Jump, Arg: 9}, {Op: api.Retry}, {Op: api.End}, one, out, halt}
	if p, e = Program(api.Barrier, 1, 5, 0, []api.Call{{Kind: api.LeaveIt, Val: api.NaN}}); e != api.OK || !slices.Equal(p, leave) {
		t.Errorf("it is %v, %d, not %v", p, e, leave)
	}
}

// TestWrongForm: P24.1: an object that can't be, a call that it does not take, one of another thread, a value that may not be: each alone, and behind others that are right.
func TestWrongForm(t *testing.T) {
	for _, s := range kinds {
		for _, size := range append([]int{s.least - 1, s.most + 1}, strange...) {
			fails(t, s.kind, size, 0, 0, nil, api.ErrForm)
			fails(t, s.kind, size, 0, 0, by(0, s.calls[0]), api.ErrForm)
		}
		fine := by(1, s.calls[1])
		bad := func(c api.Call) {
			t.Helper()
			fails(t, s.kind, s.most, 0, 1, []api.Call{c}, api.ErrForm)
			fails(t, s.kind, s.most, 0, 1, append(slices.Clone(fine), c), api.ErrForm)
			fails(t, s.kind, s.most, 0, 1, append([]api.Call{c}, fine...), api.ErrForm)
		}
		for k := range 256 {
			if kind := api.CallKind(k); !slices.Contains(s.calls[:], kind) {
				bad(api.Call{Kind: kind, Who: 1})
			}
		}
		for _, k := range s.calls {
			for _, who := range []int{math.MinInt, -1, 0, 2, 3, 4, math.MaxInt} {
				bad(api.Call{Kind: k, Who: who})
			}
			vals := []api.Val{notRight, notRight | api.NegZero, api.NaN | api.NegZero}
			if k != api.EnterIt && k != api.LeaveIt {
				vals = append(vals, api.One, api.NegZero, api.NaN, 1)
			}
			for _, v := range vals {
				bad(api.Call{Kind: k, Who: 1, Val: v})
			}
		}
	}
	for _, k := range []api.ObjectKind{api.NoObject, api.Barrier + 1, 255} {
		for size := -1; size <= 9; size++ {
			fails(t, k, size, 0, 0, nil, api.ErrForm)
		}
	}
}

// TestWrongRange: P24.1: a variable and a thread at each edge, and beyond.
func TestWrongRange(t *testing.T) {
	for _, s := range kinds {
		for size := s.least; size <= s.most; size++ {
			last := api.MaxTvars - needs(s.kind, size)
			is(t, s.kind, size, last, 3, by(3, s.calls[0]))
			for _, tvar := range []int{math.MinInt, -1, last + 1, api.MaxTvars, math.MaxInt - 1, math.MaxInt} {
				fails(t, s.kind, size, tvar, 0, nil, api.ErrRange)
				fails(t, s.kind, size, tvar, 0, by(0, s.calls[0]), api.ErrRange)
			}
			for _, who := range []int{math.MinInt, -1, api.MaxThreads, math.MaxInt} {
				fails(t, s.kind, size, 0, who, nil, api.ErrRange)
				fails(t, s.kind, size, 0, who, by(who, s.calls[1]), api.ErrRange)
			}
		}
	}
}

// TestRoom: P24.1: programs of just MaxCode instructions, of one more, and of far more.
func TestRoom(t *testing.T) {
	many := func(n int, k api.CallKind) []api.Call { return by(0, slices.Repeat([]api.CallKind{k}, n)...) }
	type row struct {
		kind  api.ObjectKind
		calls []api.Call
		size  int // how many instructions; 0: too many
	}
	rows := []row{
		{api.Mutex, many(7, api.LockIt), 64},
		{api.Mutex, slices.Concat(many(3, api.LockIt), many(3, api.UnlockIt)), 64},
		{api.Mutex, slices.Concat(many(3, api.UnlockIt), many(3, api.LockIt)), 64},
		{api.Mutex, many(5, api.UnlockIt), 61},
		{api.Mutex, many(6, api.UnlockIt), 0},
		{api.Mutex, many(8, api.LockIt), 0},
		{api.Semaphore, many(7, api.UpIt), 57},
		{api.Semaphore, many(8, api.UpIt), 0}, // 65
		{api.Semaphore, slices.Concat(many(4, api.DownIt), many(2, api.UpIt)), 0},
		{api.Semaphore, slices.Concat(many(3, api.DownIt), many(3, api.UpIt)), 61},
		{api.Queue, many(2, api.EnterIt), 51},
		{api.Queue, many(2, api.TakeIt), 51},
		{api.Queue, many(3, api.EnterIt), 0},
		{api.Queue, many(3, api.TakeIt), 0},
		{api.Barrier, many(3, api.ArriveIt), 61},
		{api.Barrier, many(5, api.LeaveIt), 61},
		{api.Barrier, many(6, api.LeaveIt), 0},
		{api.Barrier, slices.Concat(many(2, api.ArriveIt), many(2, api.LeaveIt)), 0}, // 65
		{api.Barrier, slices.Concat(many(2, api.ArriveIt), many(3, api.LeaveIt)), 0},
		{api.Barrier, slices.Concat(many(3, api.ArriveIt), many(1, api.LeaveIt)), 0},
	}
	for _, s := range kinds {
		for _, k := range s.calls {
			for _, n := range []int{9, 10, 11, 40, 5000} {
				rows = append(rows, row{s.kind, many(n, k), 0})
			}
		}
	}
	for _, r := range rows {
		size := kinds[r.kind-1].most
		if r.size == 0 {
			fails(t, r.kind, size, 0, 0, r.calls, api.ErrSpace)
			continue
		}
		is(t, r.kind, size, 0, 0, r.calls)
		if p, _ := Program(r.kind, size, 0, 0, r.calls); len(p) != r.size {
			t.Errorf("%v: %d instructions, not %d", r.calls, len(p), r.size)
		}
	}
}

// TestOrderOfErrors: P2: ErrForm comes ahead of ErrRange, and that ahead of ErrSpace.
func TestOrderOfErrors(t *testing.T) {
	for _, s := range kinds {
		long := by(0, slices.Repeat([]api.CallKind{s.calls[0]}, 9)...)
		fails(t, s.kind, s.most, 0, 0, long, api.ErrSpace)
		fails(t, s.kind, s.most, 12, 0, long, api.ErrRange)
		fails(t, s.kind, s.most, -1, 0, long, api.ErrRange)
		fails(t, s.kind, s.most+1, -1, 0, long, api.ErrForm)
		fails(t, s.kind, s.most, 0, 4, long, api.ErrForm) // they are of 0
		fails(t, s.kind, s.most, 12, -1, long, api.ErrForm)
		fails(t, s.kind, s.most, 0, 4, by(4, slices.Repeat([]api.CallKind{s.calls[0]}, 9)...), api.ErrRange)
		wrong := slices.Clone(long)
		wrong[8].Kind = api.NoCall // behind the end of what there is room for
		fails(t, s.kind, s.most, 0, 0, wrong, api.ErrForm)
		fails(t, s.kind, s.most, 12, 0, wrong, api.ErrForm)
		wrong = slices.Clone(long)
		wrong[8].Val = notRight
		fails(t, s.kind, s.most, 12, 0, wrong, api.ErrForm)
		wrong = slices.Clone(long)
		wrong[8].Who = 1
		fails(t, s.kind, s.most, -1, 0, wrong, api.ErrForm)
	}
}

// TestStays: P3: what is handed in stays as it is, spare room too, and what is answered shares nothing.
func TestStays(t *testing.T) {
	for _, s := range kinds {
		room := slices.Repeat([]api.Call{{Kind: 99, Who: 99, Val: 99}}, 8)
		copy(room, by(3, s.calls[0], s.calls[1]))
		was := slices.Clone(room)
		p, _ := Program(s.kind, s.most, 0, 3, room[:2])
		want := told(t, s.most, 0, room[:2])
		for range 2 {
			if !slices.Equal(room, was) || !slices.Equal(p, want) {
				t.Fatalf("what was handed in is %v, what is answered %v", room, p)
			}
			all := p[:cap(p)]
			for i := range all {
				all[i] = api.Ins{Op: 99}
			}
			p, _ = Program(s.kind, s.most, 0, 3, room[:2])
		}
		heap, _ := Begin(s.kind, s.most)
		if s.kind == api.Queue {
			heap[0] = value.Of(3)
		}
		vals := append(slices.Clone(heap), 7, 8, 9)
		kept := slices.Clone(vals)
		shape, e := ShapeOf(s.kind, s.most, vals[:len(heap)])
		all := shape.Vals[:cap(shape.Vals)]
		for i := range all {
			all[i] = 99
		}
		if e != api.OK || !slices.Equal(vals, kept) {
			t.Errorf("what was handed in is %v, not %v; %d", vals, kept, e)
		}
	}
}

// edges are values at each edge that a variable has, beyond it, and of all other kinds.
var edges = []api.Val{
	0, api.NegZero, api.One, value.Of(2), value.Of(3), value.Of(4), value.Of(5), value.Of(98), value.Of(99), value.Of(100), value.Of(-1), value.Of(-2),
	value.Of(0.5), value.Of(1.5), value.Of(98.5), value.Of(-0.5), 1, api.Infinity, api.Infinity | api.NegZero, api.NaN, notRight, api.NaN | api.NegZero,
	value.Of(1 << 53), value.Of(1<<53 - 1), value.Of(-1 << 53), value.Of(1<<53 + 2), value.Of(1 << 62), value.Of(1 << 63), value.Of(1e300),
}

// small is the number that a value is, if it is a whole one from 0 to most, and not -0; else -1.
func small(v api.Val, most float64) int {
	f := math.Float64frombits(uint64(v))
	if v == api.NegZero || !(f >= 0 && f <= most) || f != math.Floor(f) {
		return -1
	}
	return int(f)
}

// shapeTold is the shape that the chapter tells of values, just as many as there should be; false, if an object has none such.
func shapeTold(k api.ObjectKind, size int, heap []api.Val) (api.Shape, bool) {
	s := api.Shape{Owner: -1}
	for _, v := range heap {
		if math.IsNaN(math.Float64frombits(uint64(v))) && v != api.NaN {
			return s, false
		}
	}
	switch k {
	case api.Mutex:
		n := small(heap[0], 4)
		s.Owner = n - 1
		return s, n >= 0
	case api.Semaphore:
		s.Count = small(heap[0], 99)
		return s, s.Count >= 0
	case api.Barrier:
		s.Count, s.Gen = small(heap[0], float64(size-1)), small(heap[1], 1<<53)
		return s, s.Count >= 0 && s.Gen >= 0
	}
	n, first := small(heap[0], float64(size)), small(heap[1], float64(size-1))
	if n < 0 || first < 0 {
		return s, false
	}
	for i := range n {
		at := first + i
		if at >= size {
			at -= size
		}
		s.Vals = append(s.Vals, heap[2+at])
	}
	return s, true
}

// sameShape tells whether two shapes are the same.
func sameShape(a, b api.Shape) bool {
	return a.Owner == b.Owner && a.Count == b.Count && a.Gen == b.Gen && slices.Equal(a.Vals, b.Vals)
}

// looks holds ShapeOf against what the chapter tells, and answers the error.
func looks(t *testing.T, k api.ObjectKind, size int, heap []api.Val) api.Errno {
	t.Helper()
	want, ok := shapeTold(k, size, heap)
	e := api.OK
	if !ok {
		want, e = api.Shape{}, api.ErrState
	}
	if got, errno := ShapeOf(k, size, heap); errno != e || !sameShape(got, want) {
		t.Fatalf("ShapeOf(%d, %d, %x) is %+v, %d, not %+v, %d", k, size, heap, got, errno, want, e)
	}
	return e
}

// TestShapes: P24.2: of each kind and size, with each variable at its edges and beyond.
func TestShapes(t *testing.T) {
	draw := numbers(242)
	tally := map[api.Errno]int{}
	for _, s := range kinds {
		for size := s.least; size <= s.most; size++ {
			for _, a := range edges {
				for _, b := range edges {
					heap, _ := Begin(s.kind, size)
					for i := range heap {
						heap[i] = edges[draw(20)] // these are right
					}
					heap[0] = a
					if len(heap) > 1 {
						heap[1] = b
					}
					tally[looks(t, s.kind, size, heap)]++
				}
			}
		}
	}
	if tally[api.OK] < 100 || tally[api.ErrState] < 100 {
		t.Error(tally)
	}
}

// TestPlacesAreRight: P24.2: of a queue also a place that holds nothing has a value that is right.
func TestPlacesAreRight(t *testing.T) {
	for size := 1; size <= api.MaxQueue; size++ {
		for place := range size {
			for n := range size + 1 {
				for first := range size {
					heap, _ := Begin(api.Queue, size)
					heap[0], heap[1] = value.Of(float64(n)), value.Of(float64(first))
					for _, v := range edges {
						heap[2+place] = v
						want := api.OK
						if v == notRight || v == api.NaN|api.NegZero {
							want = api.ErrState
						}
						if e := looks(t, api.Queue, size, heap); e != want {
							t.Fatalf("ShapeOf(%v): %d", heap, e)
						}
					}
				}
			}
		}
	}
}

// TestShapeErrors: P24.2, P2: an object that can't be comes ahead of too few or too many values, and these ahead of what they are; the shape is the zero one.
func TestShapeErrors(t *testing.T) {
	is := func(k api.ObjectKind, size int, heap []api.Val, want api.Errno) {
		t.Helper()
		if s, e := ShapeOf(k, size, heap); e != want || !sameShape(s, api.Shape{}) {
			t.Errorf("ShapeOf(%d, %d, %v) is %+v, %d, not %d", k, size, heap, s, e, want)
		}
	}
	for _, s := range kinds {
		for _, size := range append([]int{s.least - 1, s.most + 1}, strange...) {
			for n := range 9 {
				is(s.kind, size, make([]api.Val, n), api.ErrForm)
				is(s.kind, size, slices.Repeat([]api.Val{notRight}, n), api.ErrForm)
			}
		}
		for size := s.least; size <= s.most; size++ {
			is(s.kind, size, nil, api.ErrRange)
			for n := range 15 {
				if n != needs(s.kind, size) {
					is(s.kind, size, make([]api.Val, n), api.ErrRange)
					is(s.kind, size, slices.Repeat([]api.Val{notRight}, n), api.ErrRange)
				}
			}
			is(s.kind, size, slices.Repeat([]api.Val{notRight}, needs(s.kind, size)), api.ErrState)
		}
	}
	for _, k := range []api.ObjectKind{api.NoObject, api.Barrier + 1, 255} {
		for size := range 10 {
			is(k, size, nil, api.ErrForm)
			is(k, size, make([]api.Val, 1), api.ErrForm)
		}
	}
}

// TestFirstShape: P24.2: what Begin tells is what object.New makes.
func TestFirstShape(t *testing.T) {
	for _, s := range kinds {
		for size := s.least; size <= s.most; size++ {
			heap, _ := Begin(s.kind, size)
			if got, e := ShapeOf(s.kind, size, heap); e != api.OK || !sameShape(got, object.New(s.kind, size).Shape()) {
				t.Errorf("ShapeOf(%d, %d) at first is %+v, %d", s.kind, size, got, e)
			}
		}
	}
}

// numbers draws numbers below n, the same ones for the same seed.
func numbers(seed uint64) func(n int) int {
	return func(n int) int {
		seed = seed*6364136223846793005 + 1442695040888963407
		return int(seed >> 33 % uint64(n))
	}
}

// drawnCall is a call of a kind of object.
func drawnCall(draw func(int) int, k api.ObjectKind, who, gen int) api.Call {
	c := api.Call{Kind: kinds[k-1].calls[draw(2)], Who: who}
	switch c.Kind {
	case api.EnterIt:
		c.Val = edges[draw(20)]
	case api.LeaveIt:
		c.Val = value.Of(float64(gen - 2 + draw(4)))
		if draw(5) == 0 {
			c.Val = edges[draw(20)]
		}
	}
	return c
}

// run is a program of drawn calls, and what it should come to.
type run struct {
	kind            api.ObjectKind
	size, tvar, who int
	o               *object.Object
	calls           []api.Call
	program         []api.Ins
	answers         []api.Val
	shut            bool // the last call blocks
}

// drawnRun is one. A call that blocks is its last one.
func drawnRun(t *testing.T, draw func(int) int) *run {
	t.Helper()
	s := kinds[draw(4)]
	r := &run{kind: s.kind, size: s.least + draw(s.most-s.least+1), who: draw(api.MaxThreads)}
	r.tvar = draw(api.MaxTvars - needs(r.kind, r.size) + 1)
	r.o = object.New(r.kind, r.size)
	r.program, _ = Program(r.kind, r.size, r.tvar, r.who, nil)
	for i := draw(9); i > 0 && !r.shut; i-- {
		c := drawnCall(draw, r.kind, r.who, r.o.Shape().Gen)
		if r.o.Fork().Do(c).Blocks && draw(4) > 0 {
			continue
		}
		l := append(slices.Clone(r.calls), c)
		p, e := Program(r.kind, r.size, r.tvar, r.who, l)
		if e == api.ErrSpace {
			break
		}
		if e != api.OK {
			t.Fatalf("Program of %v: %d", l, e)
		}
		r.calls, r.program = l, p
		a := r.o.Do(c)
		if r.shut = a.Blocks; !r.shut {
			r.answers = append(r.answers, a.Val)
		}
	}
	return r
}

// TestAlone: P24.3, P24.4: over many drawn rows of calls, the program may be run; alone, it puts out the object's answers, and its variables have the object's shape; a call that blocks is retried, and what came ahead of it is done.
func TestAlone(t *testing.T) {
	draw := numbers(244)
	tally := map[api.CallKind]int{}
	for range 20000 {
		r := drawnRun(t, draw)
		end := r.tvar + needs(r.kind, r.size)
		if place, e := verify.Check(r.program, end); place != 0 || e != api.OK {
			t.Fatalf("the program of %v: Check is %d, %d", r.calls, place, e)
		}
		begin, _ := Begin(r.kind, r.size)
		heap := slices.Concat(slices.Repeat([]api.Val{api.NaN}, r.tvar), begin, slices.Repeat([]api.Val{api.NaN}, draw(api.MaxTvars-end+1)))
		got, want := spec.Run(r.program, heap, api.MaxFuel), api.Finished
		if r.shut {
			want = api.Retried
			tally[api.NoCall]++
		}
		if got.Kind != want || !slices.Equal(got.State.Out, r.answers) || len(got.State.Stack) > 0 {
			t.Fatalf("the program of %v comes to %+v, not to %d with %v", r.calls, got, want, r.answers)
		}
		shape, e := ShapeOf(r.kind, r.size, got.Heap[r.tvar:end])
		if e != api.OK || !sameShape(shape, r.o.Shape()) {
			t.Fatalf("behind %v the shape is %+v, %d, not %+v", r.calls, shape, e, r.o.Shape())
		}
		if !slices.Equal(got.Heap[:r.tvar], heap[:r.tvar]) || !slices.Equal(got.Heap[end:], heap[end:]) {
			t.Fatalf("behind %v a variable that is not the object's has changed: %v", r.calls, got.Heap)
		}
		for _, c := range r.calls {
			tally[c.Kind]++
		}
	}
	for k := api.NoCall; k <= api.LeaveIt; k++ {
		if tally[k] < 500 {
			t.Errorf("%d came up %d times", k, tally[k])
		}
	}
}

// TestExample: that of the chapter.
func TestExample(t *testing.T) {
	p, _ := Program(api.Mutex, 0, 0, 0, by(0, api.LockIt, api.UnlockIt))
	if o := spec.Run(p, []api.Val{0}, api.MaxFuel); o.Kind != api.Finished || !slices.Equal(o.State.Out, []api.Val{api.One, api.One}) {
		t.Errorf("it comes to %+v", o)
	}
}
