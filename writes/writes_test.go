package writes

import (
	"maps"
	"math"
	"slices"
	"testing"

	"rowlock/api"
)

// Values that tests write: two, three, and bits of what is no number, which are not right.
const (
	two      api.Val = 0x4000000000000000
	three    api.Val = 0x4008000000000000
	notRight api.Val = 0x7ff8000000000001
)

// plain is a log as tests think of one: frames, the first one first.
type plain []map[int]api.Val

// get is what the last one of the frames that have tvar has.
func (p plain) get(tvar int) (api.Val, bool) {
	for _, f := range slices.Backward(p) {
		if v, ok := f[tvar]; ok {
			return v, true
		}
	}
	return 0, false
}

// of is a log of frames, each put from its least variable on.
func of(t *testing.T, frames ...map[int]api.Val) *Log {
	t.Helper()
	l := New()
	for i, f := range frames {
		if i > 0 {
			does(t, "Push", l.Push(), api.OK)
		}
		for _, tvar := range slices.Sorted(maps.Keys(f)) {
			does(t, "Put", l.Put(tvar, f[tvar]), api.OK)
		}
	}
	return l
}

// does holds what a call answered against what it should.
func does(t *testing.T, name string, got, want api.Errno) {
	t.Helper()
	if got != want {
		t.Errorf("%s is %d, not %d", name, got, want)
	}
}

// is holds a log against the frames that it should have: by all calls that ask.
func is(t *testing.T, l *Log, want ...map[int]api.Val) {
	t.Helper()
	var all []api.Pair
	for tvar := -1; tvar <= api.MaxTvars; tvar++ {
		v, ok := l.Get(tvar)
		if w, has := plain(want).get(tvar); v != w || ok != has {
			t.Errorf("Get(%d) is %x, %v, not %x, %v", tvar, v, ok, w, has)
		} else if has {
			all = append(all, api.Pair{Tvar: tvar, Val: w})
		}
	}
	n := 0
	for _, f := range want {
		n += len(f)
	}
	if got := l.All(); !slices.Equal(got, all) {
		t.Errorf("All is %v, not %v", got, all)
	}
	if l.Depth() != len(want)-1 || l.Len() != n {
		t.Errorf("Depth is %d, Len %d, of %v", l.Depth(), l.Len(), want)
	}
	for length := range api.MaxTvars + 3 {
		heap := make([]api.Val, length)
		over := make([]api.Val, length)
		for i := range length {
			heap[i] = three + api.Val(i)
			over[i] = heap[i]
			if v, ok := plain(want).get(i); ok {
				over[i] = v
			}
		}
		if got := l.Over(heap); !slices.Equal(got, over) {
			t.Errorf("Over of %d is %v, not %v", length, got, over)
		}
	}
}

// wide is a frame of n variables from tvar on, all of the value v.
func wide(tvar, n int, v api.Val) map[int]api.Val {
	f := map[int]api.Val{}
	for i := range n {
		f[tvar+i] = v
	}
	return f
}

func TestNew(t *testing.T) {
	l := New()
	is(t, l, nil)
	if got := l.Over(nil); len(got) != 0 {
		t.Errorf("Over of nil is %v", got)
	}
	does(t, "Drop", l.Drop(), api.ErrState)
	does(t, "Merge", l.Merge(), api.ErrState)
	is(t, l, nil)
}

// TestPut: what may be written, what may not, and which error is named where two apply.
func TestPut(t *testing.T) {
	rows := []struct {
		name string
		tvar int
		v    api.Val
		want api.Errno
	}{
		{"the first variable", 0, two, api.OK},
		{"the last variable", api.MaxTvars - 1, api.One, api.OK},
		{"0", 3, 0, api.OK},
		{"-0", 3, api.NegZero, api.OK},
		{"NaN", 3, api.NaN, api.OK},
		{"the infinite one", 3, api.Infinity, api.OK},
		{"the infinite one below 0", 3, api.Infinity | api.NegZero, api.OK},
		{"no variable", -1, two, api.ErrRange},
		{"far from any variable", math.MinInt, two, api.ErrRange},
		{"one variable too many", api.MaxTvars, two, api.ErrRange},
		{"far too many", math.MaxInt, two, api.ErrRange},
		{"not right", 3, notRight, api.ErrForm},
		{"not right, all bits", 3, math.MaxUint64, api.ErrForm},
		{"not right, just above the infinite one", 3, api.Infinity + 1, api.ErrForm},
		{"not right, with a sign", 3, api.NaN | api.NegZero, api.ErrForm},
		{"no variable, not right", -1, notRight, api.ErrRange},
		{"too many variables, not right", api.MaxTvars, notRight, api.ErrRange},
	}
	for _, r := range rows {
		l := New()
		does(t, r.name, l.Put(r.tvar, r.v), r.want)
		f := map[int]api.Val{}
		if r.want == api.OK {
			f[r.tvar] = r.v
		}
		is(t, l, f)
		l.Push()
		does(t, r.name+", in a frame", l.Put(r.tvar, r.v), r.want)
		is(t, l, f, f)
	}
}

// TestPutTwice: in one frame a value takes the other one's place; in two frames both stand, and the upper one hides the lower one.
func TestPutTwice(t *testing.T) {
	l := New()
	l.Put(5, api.One)
	does(t, "Put again", l.Put(5, two), api.OK)
	is(t, l, map[int]api.Val{5: two})
	does(t, "Put of what is not right", l.Put(5, notRight), api.ErrForm)
	is(t, l, map[int]api.Val{5: two})
	l.Push()
	is(t, l, map[int]api.Val{5: two}, nil)
	does(t, "Put above", l.Put(5, three), api.OK)
	is(t, l, map[int]api.Val{5: two}, map[int]api.Val{5: three})
	does(t, "Put above again", l.Put(5, 0), api.OK)
	is(t, l, map[int]api.Val{5: two}, map[int]api.Val{5: 0})
	l.Push()
	l.Push()
	does(t, "Put of the same", l.Put(5, 0), api.OK)
	is(t, l, map[int]api.Val{5: two}, map[int]api.Val{5: 0}, nil, map[int]api.Val{5: 0})
}

// TestPutSpace: MaxWrites values find room in all frames together, and one more does not; what the uppermost frame has needs none. (One frame alone can't be full: there are fewer variables than MaxWrites.)
func TestPutSpace(t *testing.T) {
	rows := []struct {
		name   string
		frames []map[int]api.Val
	}{
		{"two frames", []map[int]api.Val{wide(0, 12, two), wide(4, 4, three)}},
		{"the upper one wider", []map[int]api.Val{wide(2, 5, two), wide(0, 11, three)}},
		{"five frames", []map[int]api.Val{wide(0, 4, two), wide(1, 3, two), wide(2, 2, two), wide(3, 3, api.One), wide(4, 4, three)}},
		{"frames without any between", []map[int]api.Val{nil, wide(0, 12, two), nil, nil, wide(4, 4, three)}},
		{"the uppermost one has none", []map[int]api.Val{wide(0, 12, two), wide(4, 4, three), nil}},
	}
	for _, r := range rows {
		l := of(t, r.frames...)
		top := r.frames[len(r.frames)-1]
		for tvar := range api.MaxTvars {
			if _, has := top[tvar]; has {
				continue
			}
			does(t, r.name+": one more", l.Put(tvar, two), api.ErrSpace)
			does(t, r.name+": one more, not right", l.Put(tvar, notRight), api.ErrForm)
		}
		does(t, r.name+": no variable", l.Put(-1, two), api.ErrRange)
		does(t, r.name+": too many variables", l.Put(api.MaxTvars, notRight), api.ErrRange)
		is(t, l, r.frames...)
		again := map[int]api.Val{}
		for tvar := range top {
			does(t, r.name+": one that is there", l.Put(tvar, api.NaN), api.OK)
			again[tvar] = api.NaN
		}
		is(t, l, append(slices.Clone(r.frames[:len(r.frames)-1]), again)...)
	}
}

// TestPutAllInOneFrame: all variables find room in one frame, and can be written again there.
func TestPutAllInOneFrame(t *testing.T) {
	l := of(t, wide(0, api.MaxTvars, two))
	is(t, l, wide(0, api.MaxTvars, two))
	for tvar := range api.MaxTvars {
		does(t, "Put again", l.Put(tvar, three), api.OK)
	}
	is(t, l, wide(0, api.MaxTvars, three))
}

// TestRoomComesBack: what Drop takes away, and what Merge lets fall together, makes room.
func TestRoomComesBack(t *testing.T) {
	l := of(t, wide(0, 12, two), wide(0, 4, three), nil)
	does(t, "Put of one too many", l.Put(7, two), api.ErrSpace)
	f := l.Fork()
	l.Drop()
	l.Drop()
	l.Push()
	for tvar := range 4 {
		does(t, "Put behind Drop", l.Put(8+tvar, three), api.OK)
	}
	does(t, "Put of one too many", l.Put(7, two), api.ErrSpace)
	is(t, l, wide(0, 12, two), wide(8, 4, three))
	f.Merge()
	does(t, "Put of one too many, merged into a frame", f.Put(7, two), api.ErrSpace)
	f.Merge()
	f.Push()
	for tvar := range 4 {
		does(t, "Put behind Merge", f.Put(8+tvar, api.One), api.OK)
	}
	does(t, "Put of one too many", f.Put(7, two), api.ErrSpace)
	first := wide(0, 12, two)
	maps.Copy(first, wide(0, 4, three))
	is(t, f, first, wide(8, 4, api.One))
}

// TestPush: MaxDepth frames stand above the first one, and not one more; what is full lets a frame be begun.
func TestPush(t *testing.T) {
	l := New()
	frames := []map[int]api.Val{{}}
	for i := range api.MaxDepth {
		does(t, "Push", l.Push(), api.OK)
		frames = append(frames, map[int]api.Val{i: two})
		l.Put(i, two)
		is(t, l, frames...)
	}
	for range 2 {
		does(t, "Push of one too many", l.Push(), api.ErrSpace)
		is(t, l, frames...)
	}
	does(t, "Put in the last frame", l.Put(9, three), api.OK)
	does(t, "Drop", l.Drop(), api.OK)
	does(t, "Push behind Drop", l.Push(), api.OK)
	does(t, "Push of one too many", l.Push(), api.ErrSpace)
	does(t, "Merge", l.Merge(), api.OK)
	does(t, "Push behind Merge", l.Push(), api.OK)
	does(t, "Push of one too many", l.Push(), api.ErrSpace)
	full := of(t, wide(0, 12, two), wide(0, 4, two))
	does(t, "Push of what is full", full.Push(), api.OK)
	is(t, full, wide(0, 12, two), wide(0, 4, two), nil)
}

// TestDropAndMerge: the uppermost frame goes; with Merge the one below has its values, and frames further down stay as they are.
func TestDropAndMerge(t *testing.T) {
	rows := []struct {
		name            string
		frames          []map[int]api.Val
		dropped, merged []map[int]api.Val
	}{
		{"two without any", []map[int]api.Val{{}, {}}, []map[int]api.Val{{}}, []map[int]api.Val{{}}},
		{"example 1", []map[int]api.Val{{1: api.One}, {1: two}}, []map[int]api.Val{{1: api.One}}, []map[int]api.Val{{1: two}}},
		{"none in common", []map[int]api.Val{{1: api.One}, {0: two, 3: three}}, []map[int]api.Val{{1: api.One}}, []map[int]api.Val{{0: two, 1: api.One, 3: three}}},
		{"one in common", []map[int]api.Val{{1: api.One, 2: two}, {2: three, 3: 0}}, []map[int]api.Val{{1: api.One, 2: two}}, []map[int]api.Val{{1: api.One, 2: three, 3: 0}}},
		{"the upper one without any", []map[int]api.Val{{1: api.One}, {}}, []map[int]api.Val{{1: api.One}}, []map[int]api.Val{{1: api.One}}},
		{"the lower one without any", []map[int]api.Val{{}, {1: api.One}}, []map[int]api.Val{{}}, []map[int]api.Val{{1: api.One}}},
		{"-0 above 0, 0 above -0", []map[int]api.Val{{1: 0, 2: api.NegZero}, {1: api.NegZero, 2: 0}}, []map[int]api.Val{{1: 0, 2: api.NegZero}}, []map[int]api.Val{{1: api.NegZero, 2: 0}}},
		{"three", []map[int]api.Val{{1: api.One}, {1: two, 2: two}, {1: three, 4: three}}, []map[int]api.Val{{1: api.One}, {1: two, 2: two}}, []map[int]api.Val{{1: api.One}, {1: three, 2: two, 4: three}}},
		{"in common with the first one alone", []map[int]api.Val{{1: api.One}, {2: two}, {1: three}}, []map[int]api.Val{{1: api.One}, {2: two}}, []map[int]api.Val{{1: api.One}, {1: three, 2: two}}},
		{"five", []map[int]api.Val{{0: two}, {1: two}, {2: two}, {3: two}, {3: three, 0: three}}, []map[int]api.Val{{0: two}, {1: two}, {2: two}, {3: two}}, []map[int]api.Val{{0: two}, {1: two}, {2: two}, {3: three, 0: three}}},
	}
	for _, r := range rows {
		d, m := of(t, r.frames...), of(t, r.frames...)
		does(t, r.name+": Drop", d.Drop(), api.OK)
		is(t, d, r.dropped...)
		does(t, r.name+": Merge", m.Merge(), api.OK)
		is(t, m, r.merged...)
	}
	l := of(t, wide(0, 3, two), nil)
	does(t, "Merge", l.Merge(), api.OK)
	for range 2 {
		does(t, "Drop of the first one", l.Drop(), api.ErrState)
		does(t, "Merge of the first one", l.Merge(), api.ErrState)
		is(t, l, wide(0, 3, two))
	}
}

// TestMergedFramesGoOn: a value that came by Merge is the lower frame's own: it is written over there, and goes with it.
func TestMergedFramesGoOn(t *testing.T) {
	l := of(t, map[int]api.Val{1: api.One}, map[int]api.Val{2: two}, map[int]api.Val{1: three})
	l.Merge()
	l.Put(1, two)
	is(t, l, map[int]api.Val{1: api.One}, map[int]api.Val{1: two, 2: two})
	l.Drop()
	is(t, l, map[int]api.Val{1: api.One})
}

func TestGet(t *testing.T) {
	l := of(t, wide(0, 3, two), wide(2, 3, three))
	for _, tvar := range []int{math.MinInt, -1, 5, api.MaxTvars - 1, api.MaxTvars, math.MaxInt} {
		if v, ok := l.Get(tvar); v != 0 || ok {
			t.Errorf("Get(%d) is %x, %v", tvar, v, ok)
		}
	}
}

// TestOver: what stands in a heap stays where nothing was written, though it is not right; what was written behind its end is left out.
func TestOver(t *testing.T) {
	l := of(t, map[int]api.Val{0: two, 3: api.NegZero}, map[int]api.Val{3: api.NaN, 11: three})
	rows := []struct{ heap, want []api.Val }{
		{nil, nil},
		{[]api.Val{}, nil},
		{[]api.Val{0}, []api.Val{two}},
		{[]api.Val{0, notRight, api.One}, []api.Val{two, notRight, api.One}},
		{[]api.Val{0, 1, 2, 3}, []api.Val{two, 1, 2, api.NaN}},
		{make([]api.Val, 11), []api.Val{two, 0, 0, api.NaN, 0, 0, 0, 0, 0, 0, 0}},
		{make([]api.Val, 12), []api.Val{two, 0, 0, api.NaN, 0, 0, 0, 0, 0, 0, 0, three}},
		{make([]api.Val, 14), []api.Val{two, 0, 0, api.NaN, 0, 0, 0, 0, 0, 0, 0, three, 0, 0}},
	}
	for _, r := range rows {
		heap := slices.Clone(r.heap)
		if got := l.Over(heap); !slices.Equal(got, r.want) {
			t.Errorf("Over(%v) is %v, not %v", r.heap, got, r.want)
		}
		if !slices.Equal(heap, r.heap) {
			t.Errorf("the heap is %v, no longer %v", heap, r.heap)
		}
	}
}

// TestDropTakesPushBack: whatever is done between a Push and its Drop (P7.3), and Merge changes nothing of what Get tells (P7.4).
func TestDropTakesPushBack(t *testing.T) {
	below := numbers(5)
	for range 300 {
		l, frames := New(), plain{{}}
		for range below(12) {
			frames, _ = played(l, frames, below)
		}
		if len(frames) > api.MaxDepth {
			continue
		}
		f := l.Fork()
		does(t, "Push", f.Push(), api.OK)
		for range below(8) {
			f.Put(below(api.MaxTvars), two)
		}
		f.Push()
		f.Put(below(api.MaxTvars), three)
		m := f.Fork()
		for m.Depth() > 0 {
			was := m.All()
			m.Merge()
			if got := m.All(); !slices.Equal(got, was) {
				t.Fatalf("Merge made %v of %v", got, was)
			}
		}
		for f.Depth() >= len(frames) {
			f.Drop()
		}
		is(t, f, frames...)
	}
}

func TestNilLog(t *testing.T) {
	var l *Log
	for _, tvar := range []int{-1, 0, api.MaxTvars} {
		does(t, "Put", l.Put(tvar, notRight), api.ErrNil)
		does(t, "Put", l.Put(tvar, two), api.ErrNil)
		if v, ok := l.Get(tvar); v != 0 || ok {
			t.Errorf("Get(%d) is %x, %v", tvar, v, ok)
		}
	}
	does(t, "Push", l.Push(), api.ErrNil)
	does(t, "Drop", l.Drop(), api.ErrNil)
	does(t, "Merge", l.Merge(), api.ErrNil)
	if len(l.All()) != 0 || l.Depth() != 0 || l.Len() != 0 || l.Fork() != nil {
		t.Error("a nil object has something")
	}
	for _, heap := range [][]api.Val{nil, {}, {two, three}} {
		if got := l.Over(heap); len(got) != 0 {
			t.Errorf("Over(%v) is %v", heap, got)
		}
	}
}

// TestListsAreApart: no list of an answer lies in another one's, in what is kept, or in what is handed in; a heap stays as it is, spare room too (P3).
func TestListsAreApart(t *testing.T) {
	l := of(t, wide(0, 3, two), wide(2, 2, three))
	heap := []api.Val{7, 8, 9, 10, 11, 12}
	whole := slices.Clone(heap)
	all, over := l.All(), l.Over(heap[:3])
	a, o := l.All(), l.Over(heap[:3])
	a, o = a[:cap(a)], o[:cap(o)]
	for i := range a {
		a[i] = api.Pair{Tvar: 9, Val: api.NaN}
	}
	for i := range o {
		o[i] = api.NaN
	}
	e := l.Over(heap[:0])
	for i := range e[:cap(e)] {
		e[:cap(e)][i] = api.NaN
	}
	l.Put(0, api.One)
	if !slices.Equal(heap, whole) {
		t.Errorf("the heap is %v", heap)
	}
	if !slices.Equal(all, []api.Pair{{Tvar: 0, Val: two}, {Tvar: 1, Val: two}, {Tvar: 2, Val: three}, {Tvar: 3, Val: three}}) || !slices.Equal(over, []api.Val{two, two, three}) {
		t.Errorf("All was %v, Over %v", all, over)
	}
	is(t, l, wide(0, 3, two), map[int]api.Val{0: api.One, 2: three, 3: three})
}

// TestFork: what becomes of one of them changes nothing of the other one (P4), in none of the frames.
func TestFork(t *testing.T) {
	frames := []map[int]api.Val{wide(0, 2, two), wide(1, 2, three), wide(4, 1, api.One)}
	changes := []struct {
		name string
		does func(l *Log)
		want []map[int]api.Val
	}{
		{"Put", func(l *Log) { l.Put(4, 0); l.Put(7, 0) }, []map[int]api.Val{frames[0], frames[1], {4: 0, 7: 0}}},
		{"Push", func(l *Log) { l.Push(); l.Put(0, 0) }, []map[int]api.Val{frames[0], frames[1], frames[2], {0: 0}}},
		{"Drop, Put", func(l *Log) { l.Drop(); l.Put(1, 0) }, []map[int]api.Val{frames[0], {1: 0, 2: three}}},
		{"Merge", func(l *Log) { l.Merge() }, []map[int]api.Val{frames[0], {1: three, 2: three, 4: api.One}}},
		{"Merge twice", func(l *Log) { l.Merge(); l.Merge() }, []map[int]api.Val{{0: two, 1: three, 2: three, 4: api.One}}},
		{"Drop twice, Put", func(l *Log) { l.Drop(); l.Drop(); l.Put(0, 0) }, []map[int]api.Val{{0: 0, 1: two}}},
	}
	for _, c := range changes {
		l := of(t, frames...)
		f := l.Fork()
		if f == l {
			t.Fatal("Fork is the log itself")
		}
		is(t, f, frames...)
		c.does(f)
		is(t, l, frames...)
		is(t, f, c.want...)
		l = of(t, frames...)
		f = l.Fork()
		c.does(l)
		is(t, f, frames...)
		is(t, l, c.want...)
	}
	is(t, New().Fork(), nil)
	f := New().Fork()
	does(t, "Put of a Fork", f.Put(0, two), api.OK)
	is(t, f, wide(0, 1, two))
}

// TestApart: two logs share nothing (P6).
func TestApart(t *testing.T) {
	l := of(t, wide(0, 3, two), wide(1, 1, three))
	is(t, New(), nil)
	is(t, l, wide(0, 3, two), wide(1, 1, three))
}

// TestManyCalls plays many calls, wrong ones among them, to a log beside plain frames.
func TestManyCalls(t *testing.T) {
	below := numbers(3)
	l, frames := New(), plain{{}}
	var times [api.ErrStack + 1]int
	for range 30000 {
		var e api.Errno
		if frames, e = played(l, frames, below); e < 0 {
			t.Fatalf("a call answered another error than a plain log of %v", frames)
		}
		times[e]++
		if e != api.OK && below(4) == 0 {
			l = l.Fork()
		}
		if is(t, l, frames...); t.Failed() {
			t.FailNow()
		}
	}
	for _, e := range []api.Errno{api.OK, api.ErrRange, api.ErrForm, api.ErrSpace, api.ErrState} {
		if times[e] < 100 {
			t.Errorf("error %d came up %d times", e, times[e])
		}
	}
}

// numbers are whole numbers below n, one behind the other, the same ones at each run.
func numbers(x uint64) func(n int) int {
	return func(n int) int {
		x = x*6364136223846793005 + 1442695040888963407
		return int((x >> 33) % uint64(n))
	}
}

// played does one call to l and to the plain frames: the frames behind it, and its error; -1, if l answered another one.
func played(l *Log, p plain, below func(n int) int) (plain, api.Errno) {
	vals := []api.Val{0, api.NegZero, api.One, two, api.NaN, notRight}
	var got, want api.Errno
	top := len(p) - 1
	switch what := below(20); {
	case what == 0 || what == 1:
		got = l.Push()
		if want = api.ErrSpace; len(p) < 5 {
			p, want = append(slices.Clone(p), map[int]api.Val{}), api.OK
		}
	case what == 2:
		got = l.Drop()
		if want = api.ErrState; top > 0 {
			p, want = p[:top], api.OK
		}
	case what == 3:
		got = l.Merge()
		if want = api.ErrState; top > 0 {
			maps.Copy(p[top-1], p[top])
			p, want = p[:top], api.OK
		}
	default:
		tvar, v := below(16)-2, vals[below(6)]
		got, want = l.Put(tvar, v), putError(p, tvar, v)
		if want == api.OK {
			p[top][tvar] = v
		}
	}
	if got != want {
		return p, -1
	}
	return p, got
}

// putError is the error of a Put.
func putError(p plain, tvar int, v api.Val) api.Errno {
	n := 0
	for _, f := range p {
		n += len(f)
	}
	_, has := p[len(p)-1][tvar]
	switch {
	case tvar < 0 || tvar > 11:
		return api.ErrRange
	case v == notRight:
		return api.ErrForm
	case n >= 16 && !has:
		return api.ErrSpace
	}
	return api.OK
}
