package waits

import (
	"math"
	"reflect"
	"slices"
	"testing"

	"rowlock/api"
)

// noThreads and noTvars are numbers that no thread, no variable has.
var (
	noThreads = []int{math.MinInt, -1, api.MaxThreads, api.MaxThreads + 1, math.MaxInt}
	noTvars   = []int{math.MinInt, -64, -1, api.MaxTvars, api.MaxTvars + 1, 16, 32, 64, math.MaxInt}
)

// all are all variables.
var all = []int{0, 1, 2, 3, 4, 5, 6, 7, 8, 9, 10, 11}

// one is a thread that waits, as tests tell it.
type one struct {
	th     int
	asleep bool
	tvars  []int
}

// of are lists in which these wait, registered one behind the other.
func of(t *testing.T, those ...one) *Lists {
	t.Helper()
	l := New()
	for _, w := range those {
		answers(t, "Register", l.Register(w.th, w.tvars...), api.OK)
		if w.asleep {
			answers(t, "Sleep", l.Sleep(w.th), api.OK)
		}
	}
	return l
}

// answers holds an error against what it should be.
func answers(t *testing.T, name string, got, want api.Errno) {
	t.Helper()
	if got != want {
		t.Errorf("%s is %d, not %d", name, got, want)
	}
}

// are holds a list against what it should be: nil is as good as empty.
func are(t *testing.T, name string, got []int, want ...int) {
	t.Helper()
	if !slices.Equal(got, want) {
		t.Errorf("%s are %v, not %v", name, got, want)
	}
}

// is holds lists against who should wait there, in that order: by all calls that ask.
func is(t *testing.T, l *Lists, want ...one) {
	t.Helper()
	var order []int
	tvars := make([][]int, api.MaxThreads)
	asleep := make([]bool, api.MaxThreads)
	at := make([][]int, api.MaxTvars)
	for _, w := range want {
		order = append(order, w.th)
		tvars[w.th] = slices.Compact(slices.Sorted(slices.Values(w.tvars)))
		asleep[w.th] = w.asleep
		for _, tvar := range tvars[w.th] {
			at[tvar] = append(at[tvar], w.th)
		}
	}
	are(t, "Waiting", l.Waiting(), order...)
	for th := range api.MaxThreads {
		are(t, "Of", l.Of(th), tvars[th]...)
		if l.Asleep(th) != asleep[th] {
			t.Errorf("Asleep(%d) is not %v", th, asleep[th])
		}
	}
	for tvar := range api.MaxTvars {
		are(t, "At", l.At(tvar), at[tvar]...)
	}
	for _, th := range noThreads {
		are(t, "Of of no thread", l.Of(th))
		if l.Asleep(th) {
			t.Errorf("Asleep(%d)", th)
		}
	}
	for _, tvar := range noTvars {
		are(t, "At of no variable", l.At(tvar))
	}
}

// stays tells whether work changes nothing of lists.
func stays(t *testing.T, l *Lists, name string, work func()) {
	t.Helper()
	was := l.Fork()
	work()
	if !reflect.DeepEqual(was, l) {
		t.Errorf("%s changed something: %+v, not %+v", name, l, was)
	}
}

func TestNew(t *testing.T) { is(t, New()) }

func TestExample(t *testing.T) {
	l := New()
	answers(t, "Register", l.Register(0, 3, 5), api.OK)
	answers(t, "Sleep", l.Sleep(0), api.OK)
	are(t, "Wake", l.Wake(5), 0)
	is(t, l)
}

// TestRegister: each thread, with one variable, several, all, and one more than once, in any order.
func TestRegister(t *testing.T) {
	sets := [][]int{{0}, {api.MaxTvars - 1}, {4, 2}, {0, 11}, {11, 3, 0, 7}, all, {5, 5}, {7, 1, 7, 7, 1}, append(slices.Clone(all), all...)}
	for th := range api.MaxThreads {
		for _, tvars := range sets {
			l := New()
			answers(t, "Register", l.Register(th, tvars...), api.OK)
			is(t, l, one{th: th, tvars: tvars})
		}
	}
}

// TestRegisterErrors: what is refused, and which error is named where several apply. Thread 0 waits awake, thread 1 sleeps.
func TestRegisterErrors(t *testing.T) {
	rows := []struct {
		name  string
		th    int
		tvars []int
		want  api.Errno
	}{
		{"for none", 2, nil, api.ErrForm},
		{"for an empty list", 2, []int{}, api.ErrForm},
		{"one that waits", 0, []int{9}, api.ErrExist},
		{"one that waits, for the same", 0, []int{3, 5}, api.ErrExist},
		{"one that sleeps", 1, []int{9}, api.ErrExist},
		{"one that sleeps, for the same", 1, []int{5}, api.ErrExist},
		{"one that waits, for none", 0, nil, api.ErrForm},
		{"one that sleeps, for none", 1, nil, api.ErrForm},
		{"one that waits, for no variable", 0, []int{-1}, api.ErrRange},
		{"one that sleeps, for no variable", 1, []int{2, api.MaxTvars}, api.ErrRange},
	}
	for _, th := range noThreads {
		for _, tvars := range [][]int{nil, {1}, {-1}} {
			rows = append(rows, struct {
				name  string
				th    int
				tvars []int
				want  api.Errno
			}{"no thread", th, tvars, api.ErrRange})
		}
	}
	for _, tvar := range noTvars {
		for _, tvars := range [][]int{{tvar}, {tvar, 1, 2}, {1, tvar, 2}, {1, 2, tvar}, append(slices.Clone(all), tvar)} {
			rows = append(rows, struct {
				name  string
				th    int
				tvars []int
				want  api.Errno
			}{"no variable", 2, tvars, api.ErrRange})
		}
	}
	for _, r := range rows {
		l := of(t, one{0, false, []int{3, 5}}, one{1, true, []int{5}})
		stays(t, l, r.name, func() { answers(t, r.name, l.Register(r.th, r.tvars...), r.want) })
	}
}

// TestSleep: just one that waits awake can, and once; others stay as they are.
func TestSleep(t *testing.T) {
	l := of(t, one{2, false, []int{1, 4}}, one{0, false, []int{4}})
	answers(t, "Sleep", l.Sleep(2), api.OK)
	is(t, l, one{2, true, []int{1, 4}}, one{0, false, []int{4}})
	stays(t, l, "Sleep of one that sleeps", func() { answers(t, "Sleep", l.Sleep(2), api.ErrState) })
	stays(t, l, "Sleep of one that does not wait", func() { answers(t, "Sleep", l.Sleep(1), api.ErrState) })
	for _, th := range noThreads {
		stays(t, l, "Sleep of no thread", func() { answers(t, "Sleep", l.Sleep(th), api.ErrRange) })
	}
	l.Wake(1)
	stays(t, l, "Sleep of one that was woken", func() { answers(t, "Sleep", l.Sleep(2), api.ErrState) })
	l.Cancel(0)
	stays(t, l, "Sleep of one that is cancelled", func() { answers(t, "Sleep", l.Sleep(0), api.ErrState) })
	for th := range api.MaxThreads {
		l := of(t, one{th, false, all})
		answers(t, "Sleep", l.Sleep(th), api.OK)
		is(t, l, one{th, true, all})
	}
}

// TestCancel: one that waits awake or sleeps waits no more; others stay as they are.
func TestCancel(t *testing.T) {
	for th := range api.MaxThreads {
		for _, asleep := range []bool{false, true} {
			others := []one{{(th + 1) % 4, true, []int{2}}, {(th + 3) % 4, false, []int{2, 3}}}
			l := of(t, others[0], one{th, asleep, []int{2, 5}}, others[1])
			answers(t, "Cancel", l.Cancel(th), api.OK)
			is(t, l, others...)
			stays(t, l, "Cancel of one that is cancelled", func() { answers(t, "Cancel", l.Cancel(th), api.ErrNoent) })
			stays(t, l, "Cancel of one that never waited", func() { answers(t, "Cancel", l.Cancel((th+2)%4), api.ErrNoent) })
			for _, no := range noThreads {
				stays(t, l, "Cancel of no thread", func() { answers(t, "Cancel", l.Cancel(no), api.ErrRange) })
			}
			l.Wake(3)
			answers(t, "Cancel of one that was woken", l.Cancel((th+3)%4), api.ErrNoent)
		}
	}
}

// TestWake: who is woken, in which order, and who waits then.
func TestWake(t *testing.T) {
	those := []one{{3, false, []int{2, 5}}, {1, true, []int{5, 11}}, {0, true, []int{0}}, {2, false, []int{11, 5, 2}}}
	rows := []struct {
		name  string
		tvars []int
		woken []int
	}{
		{"none", nil, nil},
		{"an empty list", []int{}, nil},
		{"one that nobody waits for", []int{1}, nil},
		{"several that nobody waits for", []int{1, 3, 4, 6, 7, 8, 9, 10}, nil},
		{"those that there are not", noTvars, nil},
		{"the first variable", []int{0}, []int{0}},
		{"the last variable", []int{11}, []int{1, 2}},
		{"one that several wait for", []int{5}, []int{3, 1, 2}},
		{"one that the first and the last wait for", []int{2}, []int{3, 2}},
		{"several", []int{11, 2}, []int{3, 1, 2}},
		{"one more than once", []int{0, 0, 0}, []int{0}},
		{"some that there are not, and one", append(slices.Clone(noTvars), 0), []int{0}},
		{"all", all, []int{3, 1, 0, 2}},
	}
	for _, r := range rows {
		l := of(t, those...)
		are(t, r.name, l.Wake(r.tvars...), r.woken...)
		is(t, l, slices.DeleteFunc(slices.Clone(those), func(w one) bool { return slices.Contains(r.woken, w.th) })...)
		if r.woken == nil {
			is(t, l, those...)
		}
		stays(t, l, "Wake twice", func() { are(t, r.name, l.Wake(r.tvars...)) })
	}
	nobody := New()
	stays(t, nobody, "Wake where nobody waits", func() { are(t, "Wake", nobody.Wake(all...)) })
}

// TestOrder: who waits anew stands behind those that wait; the others keep their order.
func TestOrder(t *testing.T) {
	l := of(t, one{2, true, []int{1}}, one{0, false, []int{1, 2}}, one{3, false, []int{1}})
	answers(t, "Cancel", l.Cancel(2), api.OK)
	is(t, l, one{0, false, []int{1, 2}}, one{3, false, []int{1}})
	answers(t, "Register", l.Register(2, 1, 4), api.OK)
	is(t, l, one{0, false, []int{1, 2}}, one{3, false, []int{1}}, one{2, false, []int{1, 4}})
	are(t, "Wake", l.Wake(2), 0)
	answers(t, "Register", l.Register(1, 1), api.OK)
	answers(t, "Register", l.Register(0, 4), api.OK)
	is(t, l, one{3, false, []int{1}}, one{2, false, []int{1, 4}}, one{1, false, []int{1}}, one{0, false, []int{4}})
	answers(t, "Sleep", l.Sleep(2), api.OK)
	is(t, l, one{3, false, []int{1}}, one{2, true, []int{1, 4}}, one{1, false, []int{1}}, one{0, false, []int{4}})
	are(t, "Wake", l.Wake(4), 2, 0)
	are(t, "Wake", l.Wake(1), 3, 1)
	is(t, l)
}

func TestNil(t *testing.T) {
	var l *Lists
	for _, th := range append(slices.Clone(noThreads), 0) {
		answers(t, "Register", l.Register(th, 1), api.ErrNil)
		answers(t, "Register for none", l.Register(th), api.ErrNil)
		answers(t, "Register for no variable", l.Register(th, -1), api.ErrNil)
		answers(t, "Sleep", l.Sleep(th), api.ErrNil)
		answers(t, "Cancel", l.Cancel(th), api.ErrNil)
	}
	are(t, "Wake", l.Wake(all...))
	are(t, "Wake of none", l.Wake())
	is(t, l)
	if l.Fork() != nil {
		t.Error("Fork of nil")
	}
}

// TestFork: what becomes of the one changes nothing of the other one.
func TestFork(t *testing.T) {
	those := []one{{1, true, []int{2, 5}}, {0, false, []int{5}}, {3, false, []int{7}}}
	works := []func(l *Lists){
		func(l *Lists) { l.Register(2, 5, 6) },
		func(l *Lists) { l.Sleep(0) },
		func(l *Lists) { l.Cancel(1); l.Register(2, 1) },
		func(l *Lists) { l.Cancel(1); l.Register(1, 2) },
		func(l *Lists) { l.Wake(5); l.Register(0, 5) },
		func(l *Lists) { l.Wake(all...) },
	}
	for _, work := range works {
		l := of(t, those...)
		f := l.Fork()
		is(t, f, those...)
		work(f)
		is(t, l, those...)
		f = l.Fork()
		work(l)
		is(t, f, those...)
		g := f.Fork()
		work(f)
		if !reflect.DeepEqual(f.Waiting(), l.Waiting()) {
			t.Errorf("of one change come %v and %v", f.Waiting(), l.Waiting())
		}
		is(t, g, those...)
	}
}

// spoil writes over a list, and the spare room behind its end.
func spoil(l []int) {
	for i := range l[:cap(l)] {
		l[:cap(l)][i] = -77
	}
}

// TestCallersLists: what is answered is the caller's, and what is handed in stays as it is and is not kept.
func TestCallersLists(t *testing.T) {
	those := []one{{1, true, []int{2, 5}}, {0, false, []int{5}}, {3, false, []int{7, 5}}}
	l := of(t, those...)
	for _, answered := range [][]int{l.Waiting(), l.At(5), l.At(7), l.Of(1), l.Of(3), l.Fork().Wake(5), l.Fork().Waiting()} {
		spoil(answered)
		is(t, l, those...)
	}
	woken := l.Wake(2, 7)
	spoil(woken)
	is(t, l, those[1])

	room := []int{9, 4, 9, -5, -6}
	handed := room[:3]
	answers(t, "Register", l.Register(2, handed...), api.OK)
	are(t, "Wake", l.Fork().Wake(handed...), 2)
	are(t, "what was handed in", room, 9, 4, 9, -5, -6)
	spoil(handed)
	is(t, l, those[1], one{2, false, []int{4, 9}})
}

// TestApart: lists know nothing of each other.
func TestApart(t *testing.T) {
	a, b := New(), New()
	answers(t, "Register", a.Register(0, 1), api.OK)
	is(t, b)
	answers(t, "Register", b.Register(0, 2), api.OK)
	answers(t, "Sleep", b.Sleep(0), api.OK)
	is(t, a, one{0, false, []int{1}})
	are(t, "Wake", a.Wake(2))
	is(t, b, one{0, true, []int{2}})
}
