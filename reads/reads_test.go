package reads

import (
	"math"
	"slices"
	"testing"

	"rowlock/api"
)

// Values that tests read: two, and bits of what is no number, which are not right.
const (
	two      api.Val = 0x4000000000000000
	notRight api.Val = 0x7ff8000000000001
)

// of is a set of entries, added one behind the other.
func of(t *testing.T, l ...api.Entry) *Set {
	t.Helper()
	s := New()
	for _, e := range l {
		if errno := s.Add(e); errno != api.OK {
			t.Fatalf("Add(%v) is %d", e, errno)
		}
	}
	return s
}

// from are n entries of the variables from tvar on, all of version 1 and the value 1.
func from(tvar, n int) []api.Entry {
	var l []api.Entry
	for i := range n {
		l = append(l, api.Entry{Tvar: tvar + i, Val: api.One, Version: 1})
	}
	return l
}

// is holds a set against the entries that it should have: by all calls that ask.
func is(t *testing.T, s *Set, want ...api.Entry) {
	t.Helper()
	if got := s.List(); !slices.Equal(got, want) || s.Len() != len(want) {
		t.Errorf("List is %v, Len %d, not %v", got, s.Len(), want)
	}
	var tvars []int
	newest := uint64(0)
	for tvar := -1; tvar <= api.MaxTvars; tvar++ {
		at := slices.IndexFunc(want, func(e api.Entry) bool { return e.Tvar == tvar })
		e, ok := s.Get(tvar)
		if at < 0 {
			if ok || e != (api.Entry{}) {
				t.Errorf("Get(%d) is %v, %v", tvar, e, ok)
			}
			continue
		}
		tvars = append(tvars, tvar)
		newest = max(newest, want[at].Version)
		if !ok || e != want[at] {
			t.Errorf("Get(%d) is %v, %v, not %v", tvar, e, ok, want[at])
		}
	}
	if got := s.Tvars(); !slices.Equal(got, tvars) {
		t.Errorf("Tvars are %v, not %v", got, tvars)
	}
	if got := s.Newest(); got != newest {
		t.Errorf("Newest is %d, not %d", got, newest)
	}
}

func TestNew(t *testing.T) {
	s := New()
	is(t, s)
	if !s.Valid(nil) || !s.Valid([]api.Val{api.One}) {
		t.Error("nothing is not Valid")
	}
	if v, ok := s.Broken(nil); v != 0 || ok {
		t.Errorf("Broken is %d, %v", v, ok)
	}
}

// TestAdd: what may be noted, what may not, and which error is named where several apply.
func TestAdd(t *testing.T) {
	rows := []struct {
		name string
		e    api.Entry
		want api.Errno
	}{
		{"the first variable", api.Entry{Tvar: 0, Val: two, Version: 3}, api.OK},
		{"the last variable", api.Entry{Tvar: api.MaxTvars - 1, Val: api.One}, api.OK},
		{"the last version", api.Entry{Tvar: 4, Version: api.MaxVersion}, api.OK},
		{"NaN", api.Entry{Tvar: 4, Val: api.NaN}, api.OK},
		{"-0", api.Entry{Tvar: 4, Val: api.NegZero}, api.OK},
		{"the infinite one", api.Entry{Tvar: 4, Val: api.Infinity}, api.OK},
		{"no variable", api.Entry{Tvar: -1}, api.ErrRange},
		{"far from any variable", api.Entry{Tvar: math.MinInt}, api.ErrRange},
		{"one variable too many", api.Entry{Tvar: api.MaxTvars}, api.ErrRange},
		{"far too many", api.Entry{Tvar: math.MaxInt}, api.ErrRange},
		{"one version too many", api.Entry{Tvar: 4, Version: api.MaxVersion + 1}, api.ErrRange},
		{"far too many versions", api.Entry{Tvar: 4, Version: math.MaxUint64}, api.ErrRange},
		{"not right", api.Entry{Tvar: 4, Val: notRight}, api.ErrForm},
		{"not right, below 0", api.Entry{Tvar: 4, Val: math.MaxUint64}, api.ErrForm},
		{"no variable, not right", api.Entry{Tvar: -1, Val: notRight}, api.ErrRange},
		{"too many variables, not right", api.Entry{Tvar: api.MaxTvars, Val: notRight}, api.ErrRange},
		{"too many versions, not right", api.Entry{Tvar: 4, Val: notRight, Version: api.MaxVersion + 1}, api.ErrRange},
	}
	for _, r := range rows {
		s := New()
		if e := s.Add(r.e); e != r.want {
			t.Errorf("%s: %d, not %d", r.name, e, r.want)
		}
		if r.want != api.OK {
			is(t, s)
			continue
		}
		is(t, s, r.e)
	}
}

// TestAddTwice: what was read first of a variable stays (P6.3), but what is wrong of itself is refused though the variable is there.
func TestAddTwice(t *testing.T) {
	first := api.Entry{Tvar: 2, Val: api.One, Version: 4}
	s := of(t, first)
	rows := []struct {
		e    api.Entry
		want api.Errno
	}{
		{first, api.OK},
		{api.Entry{Tvar: 2, Val: two, Version: 9}, api.OK},
		{api.Entry{Tvar: 2}, api.OK},
		{api.Entry{Tvar: 2, Val: notRight}, api.ErrForm},
		{api.Entry{Tvar: 2, Version: api.MaxVersion + 1}, api.ErrRange},
	}
	for _, r := range rows {
		if e := s.Add(r.e); e != r.want {
			t.Errorf("Add(%v) is %d, not %d", r.e, e, r.want)
		}
		is(t, s, first)
	}
}

// TestAddSpace: MaxReads find room, and one more does not; a variable that is there needs none.
func TestAddSpace(t *testing.T) {
	full := from(2, api.MaxReads)
	slices.Reverse(full)
	s := New()
	for i, e := range full {
		if errno := s.Add(e); errno != api.OK {
			t.Fatalf("Add of %d is %d", i, errno)
		}
		is(t, s, full[:i+1]...)
	}
	rows := []struct {
		e    api.Entry
		want api.Errno
	}{
		{api.Entry{Tvar: 0}, api.ErrSpace},
		{api.Entry{Tvar: api.MaxTvars - 1, Val: two, Version: 7}, api.ErrSpace},
		{api.Entry{Tvar: 1, Val: notRight}, api.ErrForm},
		{api.Entry{Tvar: api.MaxTvars}, api.ErrRange},
		{api.Entry{Tvar: 1, Version: api.MaxVersion + 1}, api.ErrRange},
		{api.Entry{Tvar: 2, Val: two, Version: 7}, api.OK},
		{api.Entry{Tvar: 9, Val: two, Version: 7}, api.OK},
	}
	for _, r := range rows {
		if e := s.Add(r.e); e != r.want {
			t.Errorf("Add(%v) of a full one is %d, not %d", r.e, e, r.want)
		}
		is(t, s, full...)
	}
}

func TestMerge(t *testing.T) {
	a := api.Entry{Tvar: 7, Val: api.One, Version: 3}
	b := api.Entry{Tvar: 1, Val: two, Version: 5}
	c := api.Entry{Tvar: 4, Val: api.NaN, Version: 0}
	otherA := api.Entry{Tvar: 7, Val: two, Version: 9}
	rows := []struct {
		name        string
		s, o, joint []api.Entry
		want        api.Errno
	}{
		{"nothing and nothing", nil, nil, nil, api.OK},
		{"nothing and some", nil, []api.Entry{a, b, c}, []api.Entry{a, b, c}, api.OK},
		{"some and nothing", []api.Entry{a, b}, nil, []api.Entry{a, b}, api.OK},
		{"none in common", []api.Entry{c}, []api.Entry{a, b}, []api.Entry{c, a, b}, api.OK},
		{"one in common", []api.Entry{b, a}, []api.Entry{otherA, c}, []api.Entry{b, a, c}, api.OK},
		{"all in common", []api.Entry{a}, []api.Entry{otherA}, []api.Entry{a}, api.OK},
		{"up to the end", from(0, 5), from(9, 3), append(from(0, 5), from(9, 3)...), api.OK},
		{"up to the end, some in common", from(0, 7), from(2, 6), from(0, 8), api.OK},
		{"both full, of the same", from(3, 8), from(3, 8), from(3, 8), api.OK},
		{"nothing and full", nil, from(4, 8), from(4, 8), api.OK},
		{"one too many", from(0, 5), from(8, 4), from(0, 5), api.ErrSpace},
		{"one too many, some in common", from(0, 7), from(2, 7), from(0, 7), api.ErrSpace},
		{"full and one more", from(0, 8), []api.Entry{a, {Tvar: 8}}, from(0, 8), api.ErrSpace},
		{"full and full", from(0, 8), from(4, 8), from(0, 8), api.ErrSpace},
	}
	for _, r := range rows {
		s, o := of(t, r.s...), of(t, r.o...)
		if e := s.Merge(o); e != r.want {
			t.Errorf("%s: %d, not %d", r.name, e, r.want)
		}
		is(t, s, r.joint...)
		is(t, o, r.o...)
	}
}

// TestMergeApart: a set that was merged and the one that it went into go on apart, and one can be merged with itself.
func TestMergeApart(t *testing.T) {
	s, o := of(t, from(0, 2)...), of(t, from(4, 2)...)
	s.Merge(o)
	s.Add(api.Entry{Tvar: 9})
	o.Clear()
	o.Add(api.Entry{Tvar: 8})
	is(t, o, api.Entry{Tvar: 8})
	is(t, s, append(append(from(0, 2), from(4, 2)...), api.Entry{Tvar: 9})...)
	full := of(t, from(1, 8)...)
	if e := full.Merge(full); e != api.OK {
		t.Errorf("Merge of itself is %d", e)
	}
	is(t, full, from(1, 8)...)
}

func TestClear(t *testing.T) {
	s := New()
	s.Clear()
	is(t, s)
	for range 3 {
		for _, e := range from(3, api.MaxReads) {
			if errno := s.Add(e); errno != api.OK {
				t.Fatalf("Add(%v) behind Clear is %d", e, errno)
			}
		}
		is(t, s, from(3, api.MaxReads)...)
		s.Clear()
		is(t, s)
		if !s.Valid(nil) {
			t.Error("it is not Valid behind Clear")
		}
	}
	e := api.Entry{Tvar: 3, Val: two, Version: 8}
	s.Add(e)
	is(t, s, e)
}

func TestGet(t *testing.T) {
	s := of(t, from(0, 3)...)
	for _, v := range []int{math.MinInt, -1, 3, api.MaxTvars - 1, api.MaxTvars, math.MaxInt} {
		if e, ok := s.Get(v); ok || e != (api.Entry{}) {
			t.Errorf("Get(%d) is %v, %v", v, e, ok)
		}
	}
}

func TestNewest(t *testing.T) {
	rows := []struct {
		versions []uint64
		want     uint64
	}{
		{nil, 0}, {[]uint64{0, 0}, 0}, {[]uint64{3}, 3}, {[]uint64{1, 5, 2}, 5}, {[]uint64{9, 5, 2}, 9}, {[]uint64{1, 2, api.MaxVersion}, api.MaxVersion},
	}
	for _, r := range rows {
		s := New()
		for i, v := range r.versions {
			s.Add(api.Entry{Tvar: i, Version: v})
		}
		if got := s.Newest(); got != r.want {
			t.Errorf("Newest of %v is %d", r.versions, got)
		}
	}
}

// TestBroken: the first one in the order of reading, not of variables; Valid just if there is none.
func TestBroken(t *testing.T) {
	s := of(t,
		api.Entry{Tvar: 5, Val: api.One, Version: 1}, api.Entry{Tvar: 0, Val: 0, Version: 2},
		api.Entry{Tvar: 2, Val: api.NaN, Version: 3}, api.Entry{Tvar: 3, Val: api.NegZero, Version: 4})
	rows := []struct {
		name string
		heap []api.Val
		tvar int
		ok   bool
	}{
		{"as it was", []api.Val{0, 0, api.NaN, api.NegZero, 0, api.One}, 0, false},
		{"others changed", []api.Val{0, two, api.NaN, api.NegZero, notRight, api.One}, 0, false},
		{"a longer heap", []api.Val{0, 0, api.NaN, api.NegZero, 0, api.One, 7, 8}, 0, false},
		{"bits that count as NaN", []api.Val{0, 0, notRight, api.NegZero, 0, api.One}, 0, false},
		{"nil", nil, 5, true},
		{"empty", []api.Val{}, 5, true},
		{"one too short", []api.Val{0, 0, api.NaN, api.NegZero, 0}, 5, true},
		{"all others", []api.Val{1, 1, 1, 1, 1, 1}, 5, true},
		{"the second one", []api.Val{api.One, 0, api.NaN, api.NegZero, 0, api.One}, 0, true},
		{"the second and the last one", []api.Val{api.One, 0, api.NaN, 0, 0, api.One}, 0, true},
		{"-0 instead of 0", []api.Val{api.NegZero, 0, api.NaN, api.NegZero, 0, api.One}, 0, true},
		{"a number instead of NaN", []api.Val{0, 0, 0, api.NegZero, 0, api.One}, 2, true},
		{"the infinite one instead of NaN", []api.Val{0, 0, api.Infinity, api.NegZero, 0, api.One}, 2, true},
		{"0 instead of -0", []api.Val{0, 0, api.NaN, 0, 0, api.One}, 3, true},
		{"NaN instead of a number", []api.Val{0, 0, api.NaN, api.NegZero, 0, api.NaN}, 5, true},
		{"bits that are not right instead of a number", []api.Val{0, 0, api.NaN, api.NegZero, 0, notRight}, 5, true},
	}
	for _, r := range rows {
		if v, ok := s.Broken(r.heap); v != r.tvar || ok != r.ok {
			t.Errorf("%s: Broken is %d, %v", r.name, v, ok)
		}
		if s.Valid(r.heap) == r.ok {
			t.Errorf("%s: Valid is %v", r.name, !r.ok)
		}
	}
	short := of(t, api.Entry{Tvar: 0}, api.Entry{Tvar: 1}, api.Entry{Tvar: 2})
	for n := range 3 {
		if v, ok := short.Broken(make([]api.Val, n)); v != n || !ok || short.Valid(make([]api.Val, n)) {
			t.Errorf("Broken of a heap of %d is %d, %v", n, v, ok)
		}
	}
	room := make([]api.Val, 3)
	if v, ok := short.Broken(room[:2]); v != 2 || !ok {
		t.Errorf("spare room behind a heap is a place in it: %d, %v", v, ok)
	}
}

// TestValidHangsOnValues: neither versions, nor the order, nor other variables make a difference (P6.4).
func TestValidHangsOnValues(t *testing.T) {
	vals := []api.Val{0, api.NegZero, api.NaN, api.One}
	heap := func(n int) []api.Val {
		var h []api.Val
		for range 4 {
			h = append(h, vals[n%4])
			n /= 4
		}
		return h
	}
	a := of(t, api.Entry{Tvar: 1, Val: api.NegZero, Version: 1}, api.Entry{Tvar: 3, Val: api.NaN, Version: 2})
	b := of(t, api.Entry{Tvar: 3, Val: api.NaN, Version: api.MaxVersion}, api.Entry{Tvar: 1, Val: api.NegZero})
	for n := range 256 {
		h := heap(n)
		want := h[1] == api.NegZero && h[3] == api.NaN
		if a.Valid(h) != want || b.Valid(h) != want {
			t.Errorf("Valid of %v: %v, %v", h, a.Valid(h), b.Valid(h))
		}
	}
}

func TestNilSet(t *testing.T) {
	var s *Set
	o := of(t, from(0, 2)...)
	for _, e := range []api.Entry{{}, {Tvar: -1}, {Tvar: 99, Val: notRight}} {
		if errno := s.Add(e); errno != api.ErrNil {
			t.Errorf("Add(%v) is %d", e, errno)
		}
	}
	if a, b, c, d := s.Merge(o), s.Merge(nil), o.Merge(nil), of(t, from(0, 8)...).Merge(nil); a != api.ErrNil || b != api.ErrNil || c != api.ErrNil || d != api.ErrNil {
		t.Errorf("Merge is %d, %d, %d, %d", a, b, c, d)
	}
	is(t, o, from(0, 2)...)
	s.Clear()
	for _, v := range []int{-1, 0, 12} {
		if e, ok := s.Get(v); ok || e != (api.Entry{}) {
			t.Errorf("Get(%d) is %v, %v", v, e, ok)
		}
	}
	if len(s.List()) != 0 || len(s.Tvars()) != 0 || s.Newest() != 0 || s.Len() != 0 || s.Fork() != nil {
		t.Error("a nil object has something")
	}
	for _, heap := range [][]api.Val{nil, {}, {0, api.One}} {
		if v, ok := s.Broken(heap); v != 0 || ok {
			t.Errorf("Broken(%v) is %d, %v", heap, v, ok)
		}
		if s.Valid(heap) {
			t.Errorf("Valid(%v)", heap)
		}
	}
}

// TestListsAreApart: no list of an answer lies in another one's, or in what is kept; a heap stays as it is, spare room too (P3).
func TestListsAreApart(t *testing.T) {
	s := of(t, from(0, 3)...)
	list, tvars := s.List(), s.Tvars()
	l, v := s.List(), s.Tvars()
	l, v = l[:cap(l)], v[:cap(v)]
	for i := range l {
		l[i] = api.Entry{Tvar: 9, Val: two, Version: 9}
	}
	for i := range v {
		v[i] = 9
	}
	s.Add(api.Entry{Tvar: 3, Val: api.One, Version: 1})
	is(t, s, from(0, 4)...)
	if !slices.Equal(list, from(0, 3)) || !slices.Equal(tvars, []int{0, 1, 2}) {
		t.Errorf("List was %v, Tvars %v", list, tvars)
	}
	heap := []api.Val{api.One, notRight, api.One, api.One, 5, 6}
	whole := slices.Clone(heap)
	s.Broken(heap[:3])
	s.Valid(heap[:4])
	if !slices.Equal(heap, whole) {
		t.Errorf("the heap is %v", heap)
	}
}

// TestFork: what becomes of one of them changes nothing of the other one (P4).
func TestFork(t *testing.T) {
	s := of(t, from(0, 3)...)
	f := s.Fork()
	if f == s {
		t.Fatal("Fork is the set itself")
	}
	is(t, f, from(0, 3)...)
	f.Add(api.Entry{Tvar: 9, Val: two})
	s.Add(api.Entry{Tvar: 8, Val: api.NaN})
	is(t, f, append(from(0, 3), api.Entry{Tvar: 9, Val: two})...)
	is(t, s, append(from(0, 3), api.Entry{Tvar: 8, Val: api.NaN})...)
	f.Clear()
	is(t, f)
	is(t, s, append(from(0, 3), api.Entry{Tvar: 8, Val: api.NaN})...)
	full := of(t, from(4, 8)...)
	other := full.Fork()
	full.Clear()
	is(t, other, from(4, 8)...)
	is(t, New().Fork())
}

// TestApart: two sets share nothing (P6).
func TestApart(t *testing.T) {
	s := of(t, from(0, 3)...)
	is(t, New())
	is(t, s, from(0, 3)...)
}

// TestManyCalls plays many calls, wrong ones among them, to two sets beside plain lists.
func TestManyCalls(t *testing.T) {
	x := uint64(3)
	below := func(n int) int {
		x = x*6364136223846793005 + 1442695040888963407
		return int((x >> 33) % uint64(n))
	}
	vals := []api.Val{0, api.NegZero, api.One, two, api.NaN, notRight}
	sets := [2]*Set{New(), New()}
	var lists [2][]api.Entry
	spaces := 0
	for range 20000 {
		me := below(2)
		var got, want api.Errno
		switch what := below(20); {
		case what == 0:
			sets[me].Clear()
			lists[me] = nil
		case what < 3:
			got = sets[me].Merge(sets[1-me])
			lists[me], want = merged(lists[me], lists[1-me])
		case what == 3:
			sets[me] = sets[1-me].Fork()
			lists[me] = slices.Clone(lists[1-me])
		default:
			e := api.Entry{Tvar: below(14) - 1, Val: vals[below(6)], Version: uint64(below(9))}
			got = sets[me].Add(e)
			if want = checked(e); want == api.OK {
				lists[me], want = merged(lists[me], []api.Entry{e})
			}
		}
		if got != want {
			t.Fatalf("%d, not %d, of %v", got, want, lists)
		}
		if want == api.ErrSpace {
			spaces++
		}
		for i := range sets {
			is(t, sets[i], lists[i]...)
		}
		if t.Failed() {
			t.FailNow()
		}
	}
	if spaces < 100 {
		t.Errorf("only %d found no room", spaces)
	}
}

// checked is what is wrong of an entry by itself.
func checked(e api.Entry) api.Errno {
	switch {
	case e.Tvar < 0 || e.Tvar > 11:
		return api.ErrRange
	case e.Val == notRight:
		return api.ErrForm
	}
	return api.OK
}

// merged is l with those of more whose variable is not there; l, if there is no room.
func merged(l, more []api.Entry) ([]api.Entry, api.Errno) {
	out := slices.Clone(l)
	for _, e := range more {
		if !slices.ContainsFunc(out, func(o api.Entry) bool { return o.Tvar == e.Tvar }) {
			out = append(out, e)
		}
	}
	if len(out) > 8 {
		return l, api.ErrSpace
	}
	return out, api.OK
}
