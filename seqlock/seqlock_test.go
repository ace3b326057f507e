package seqlock

import (
	"math"
	"testing"

	"rowlock/api"
)

// nobody is the owner that tests name for a lock that nobody has.
const nobody = -1

// is holds a lock against what it should count, and who should have it: by all calls that ask.
func is(t *testing.T, l *Lock, count uint64, owner int) {
	t.Helper()
	has, ok := l.Owner()
	if ok != (owner != nobody) || ok && has != owner || !ok && has != 0 {
		t.Errorf("Owner is %d, %v, not %d", has, ok, owner)
	}
	if l.Count() != count || !l.Since(count) || l.Since(count+1) || l.Since(count-1) {
		t.Errorf("it counts %d, not %d", l.Count(), count)
	}
	wantCount, wantErrno := count, api.OK
	if owner != nobody {
		wantCount, wantErrno = 0, api.ErrBusy
	}
	if got, e := l.Snapshot(); got != wantCount || e != wantErrno {
		t.Errorf("Snapshot is %d, %d, not %d, %d", got, e, wantCount, wantErrno)
	}
}

// at is a free lock that counts so far; nobody locks it so often.
func at(count uint64) *Lock {
	l := New()
	l.count = count
	return l
}

func TestNew(t *testing.T) {
	is(t, New(), 0, nobody)
}

// TestGoes plays one call behind the other on one lock.
func TestGoes(t *testing.T) {
	l := New()
	rows := []struct {
		name  string
		do    func() api.Errno
		want  api.Errno
		count uint64
		owner int
	}{
		{"unlock a free one", func() api.Errno { return l.Unlock(0) }, api.ErrState, 0, nobody},
		{"break a free one", func() api.Errno { return l.Break(0) }, api.ErrState, 0, nobody},
		{"unlock a free one by nobody", func() api.Errno { return l.Unlock(-1) }, api.ErrState, 0, nobody},
		{"break a free one by nobody", func() api.Errno { return l.Break(-1) }, api.ErrState, 0, nobody},
		{"try at what it counts not", func() api.Errno { return l.Try(0, 1) }, api.ErrState, 0, nobody},
		{"try by the first one", func() api.Errno { return l.Try(0, 0) }, api.OK, 1, 0},
		{"try again", func() api.Errno { return l.Try(0, 0) }, api.ErrBusy, 1, 0},
		{"try again at what it counts", func() api.Errno { return l.Try(0, 1) }, api.ErrBusy, 1, 0},
		{"try by another one", func() api.Errno { return l.Try(1, 1) }, api.ErrBusy, 1, 0},
		{"unlock another's", func() api.Errno { return l.Unlock(1) }, api.ErrState, 1, 0},
		{"break another's", func() api.Errno { return l.Break(1) }, api.ErrState, 1, 0},
		{"unlock by nobody", func() api.Errno { return l.Unlock(-1) }, api.ErrState, 1, 0},
		{"unlock by one too many", func() api.Errno { return l.Unlock(api.MaxThreads) }, api.ErrState, 1, 0},
		{"unlock", func() api.Errno { return l.Unlock(0) }, api.OK, 2, nobody},
		{"unlock again", func() api.Errno { return l.Unlock(0) }, api.ErrState, 2, nobody},
		{"break what was unlocked", func() api.Errno { return l.Break(0) }, api.ErrState, 2, nobody},
		{"try at what it counted once", func() api.Errno { return l.Try(2, 0) }, api.ErrState, 2, nobody},
		{"try by the last one", func() api.Errno { return l.Try(api.MaxThreads-1, 2) }, api.OK, 3, api.MaxThreads - 1},
		{"break another's", func() api.Errno { return l.Break(0) }, api.ErrState, 3, api.MaxThreads - 1},
		{"unlock another's", func() api.Errno { return l.Unlock(0) }, api.ErrState, 3, api.MaxThreads - 1},
		{"break", func() api.Errno { return l.Break(api.MaxThreads - 1) }, api.OK, 2, nobody},
		{"break again", func() api.Errno { return l.Break(api.MaxThreads - 1) }, api.ErrState, 2, nobody},
		{"try behind a break", func() api.Errno { return l.Try(2, 2) }, api.OK, 3, 2},
		{"unlock behind a break", func() api.Errno { return l.Unlock(2) }, api.OK, 4, nobody},
	}
	for _, r := range rows {
		if e := r.do(); e != r.want {
			t.Errorf("%s: %d, not %d", r.name, e, r.want)
		}
		is(t, l, r.count, r.owner)
	}
}

// TestTryErrors: which error Try names, where several apply, and that it changes nothing then.
func TestTryErrors(t *testing.T) {
	taken := func(count uint64) *Lock {
		l := at(count)
		if e := l.Try(2, count); e != api.OK {
			t.Fatalf("Try at %d is %d", count, e)
		}
		return l
	}
	rows := []struct {
		name  string
		l     *Lock
		owner int
		at    uint64
		want  api.Errno
	}{
		{"no owner, free", New(), -1, 0, api.ErrRange},
		{"no owner, another count", New(), -1, 5, api.ErrRange},
		{"no owner, busy, another count", taken(4), -1, 0, api.ErrRange},
		{"no owner, full", at(api.MaxVersion), api.MaxThreads, api.MaxVersion, api.ErrRange},
		{"one too many, free", New(), api.MaxThreads, 0, api.ErrRange},
		{"one too many, busy", taken(4), api.MaxThreads, 5, api.ErrRange},
		{"far too many", New(), math.MaxInt, 0, api.ErrRange},
		{"far too few", New(), math.MinInt, 0, api.ErrRange},
		{"busy, another count", taken(4), 1, 4, api.ErrBusy},
		{"busy, its count", taken(4), 1, 5, api.ErrBusy},
		{"busy, its own", taken(4), 2, 5, api.ErrBusy},
		{"busy, full", taken(api.MaxVersion - 2), 1, api.MaxVersion - 1, api.ErrBusy},
		{"below its count", at(4), 1, 3, api.ErrState},
		{"far below its count", at(4), 1, 0, api.ErrState},
		{"above its count", at(4), 1, 5, api.ErrState},
		{"far above its count", at(4), 1, math.MaxUint64, api.ErrState},
		{"another count, full", at(api.MaxVersion), 1, 0, api.ErrState},
		{"full", at(api.MaxVersion), 1, api.MaxVersion, api.ErrSpace},
	}
	for _, r := range rows {
		owner, ok := r.l.Owner()
		if !ok {
			owner = nobody
		}
		count := r.l.Count()
		if e := r.l.Try(r.owner, r.at); e != r.want {
			t.Errorf("%s: %d, not %d", r.name, e, r.want)
		}
		is(t, r.l, count, owner)
	}
}

// TestEnd: the last Try is at MaxVersion - 2 (what is free counts an even number), and a full lock can be asked still.
func TestEnd(t *testing.T) {
	l := at(api.MaxVersion - 4)
	for _, count := range []uint64{api.MaxVersion - 4, api.MaxVersion - 2} {
		if e := l.Try(3, count); e != api.OK {
			t.Fatalf("Try at %d is %d", count, e)
		}
		is(t, l, count+1, 3)
		if e := l.Break(3); e != api.OK {
			t.Fatalf("Break at %d is %d", count, e)
		}
		is(t, l, count, nobody)
		if a, b := l.Try(0, count), l.Unlock(0); a != api.OK || b != api.OK {
			t.Fatalf("Try and Unlock at %d: %d, %d", count, a, b)
		}
		is(t, l, count+2, nobody)
	}
	for owner := range api.MaxThreads {
		if e := l.Try(owner, api.MaxVersion); e != api.ErrSpace {
			t.Errorf("Try(%d) of a full one is %d", owner, e)
		}
	}
	is(t, l, api.MaxVersion, nobody)
}

// TestOwners: everyone from 0 to MaxThreads - 1 can have it, and nobody else can free it.
func TestOwners(t *testing.T) {
	others := []int{math.MinInt, -2, -1, 0, 1, 2, 3, 4, 5, math.MaxInt}
	for owner := range api.MaxThreads {
		l := New()
		if e := l.Try(owner, 0); e != api.OK {
			t.Fatalf("Try(%d) is %d", owner, e)
		}
		for _, o := range others {
			if o == owner {
				continue
			}
			if a, b := l.Unlock(o), l.Break(o); a != api.ErrState || b != api.ErrState {
				t.Errorf("Unlock(%d), Break(%d) of %d's: %d, %d", o, o, owner, a, b)
			}
			is(t, l, 1, owner)
		}
		f := l.Fork()
		if a, b := l.Unlock(owner), f.Break(owner); a != api.OK || b != api.OK {
			t.Errorf("Unlock(%d), Break(%d) are %d, %d", owner, owner, a, b)
		}
		is(t, l, 2, nobody)
		is(t, f, 0, nobody)
		for _, o := range others {
			if a, b := l.Unlock(o), l.Break(o); a != api.ErrState || b != api.ErrState {
				t.Errorf("Unlock(%d), Break(%d) of nobody's: %d, %d", o, o, a, b)
			}
		}
		is(t, l, 2, nobody)
	}
}

func TestSince(t *testing.T) {
	l := at(6)
	for _, n := range []uint64{0, 4, 5, 7, 8, api.MaxVersion, math.MaxUint64} {
		if l.Since(n) {
			t.Errorf("it counts 6, and Since(%d)", n)
		}
	}
	l.Try(1, 6)
	if l.Since(6) || !l.Since(7) {
		t.Error("Since of one that somebody has")
	}
}

func TestNilLock(t *testing.T) {
	var l *Lock
	if n, e := l.Snapshot(); n != 0 || e != api.ErrNil {
		t.Errorf("Snapshot is %d, %d", n, e)
	}
	for _, owner := range []int{math.MinInt, -1, 0, 3, 4, math.MaxInt} {
		if a, b, c := l.Try(owner, 0), l.Unlock(owner), l.Break(owner); a != api.ErrNil || b != api.ErrNil || c != api.ErrNil {
			t.Errorf("Try, Unlock, Break of %d: %d, %d, %d", owner, a, b, c)
		}
	}
	if owner, ok := l.Owner(); owner != 0 || ok {
		t.Errorf("Owner is %d, %v", owner, ok)
	}
	if l.Count() != 0 || l.Since(0) || l.Since(1) || l.Fork() != nil {
		t.Error("a nil object has something")
	}
}

// TestFork: what becomes of one of them changes nothing of the other one (P4).
func TestFork(t *testing.T) {
	l := New()
	l.Try(1, 0)
	f := l.Fork()
	if f == l {
		t.Fatal("Fork is the lock itself")
	}
	is(t, f, 1, 1)
	f.Unlock(1)
	f.Try(3, 2)
	is(t, f, 3, 3)
	is(t, l, 1, 1)
	l.Break(1)
	is(t, f, 3, 3)
	is(t, l, 0, nobody)
	is(t, l.Fork(), 0, nobody)
}

// TestApart: two locks share nothing (P6).
func TestApart(t *testing.T) {
	l := New()
	l.Try(2, 0)
	is(t, New(), 0, nobody)
	is(t, l, 1, 2)
}

// TestManyCalls plays many calls, wrong ones among them, beside a plain model: the count is even just if nobody has it (P5.3), one has it at most (E2), and who sees the count of once knows that no Unlock came since (P5.4).
func TestManyCalls(t *testing.T) {
	x := uint64(5)
	below := func(n int) int {
		x = x*6364136223846793005 + 1442695040888963407
		return int((x >> 33) % uint64(n))
	}
	l, m := New(), model{owner: nobody}
	seen := map[uint64]int{} // by count: how many Unlocks came ahead
	for range 20000 {
		what, owner, near := below(4), below(6)-1, m.count+uint64(below(3))-1
		got, want := play(l, what, owner, near), m.play(what, owner, near)
		if got != want {
			t.Fatalf("call %d of %d, %d: %d, not %d", what, owner, near, got, want)
		}
		is(t, l, m.count, m.owner)
		if _, ok := l.Owner(); ok != (l.Count()%2 == 1) {
			t.Fatalf("it counts %d, and somebody has it: %v", l.Count(), ok)
		}
		if _, ok := seen[l.Count()]; !ok {
			seen[l.Count()] = m.unlocks
		}
		if seen[l.Count()] != m.unlocks {
			t.Fatalf("it counts %d again, and was unlocked between", l.Count())
		}
	}
	if m.unlocks < 400 {
		t.Errorf("only %d were unlocked", m.unlocks)
	}
}

// model is what a lock should be.
type model struct {
	count   uint64
	owner   int
	unlocks int
}

// play does one call to l.
func play(l *Lock, what, owner int, near uint64) api.Errno {
	switch what {
	case 0:
		return l.Unlock(owner)
	case 1:
		return l.Break(owner)
	}
	return l.Try(owner, near)
}

// play is what a call should answer, and does to m what should become of it.
func (m *model) play(what, owner int, near uint64) api.Errno {
	switch {
	case what < 2 && (m.owner == nobody || m.owner != owner):
		return api.ErrState
	case what == 0:
		m.count++
		m.unlocks++
		m.owner = nobody
	case what == 1:
		m.count--
		m.owner = nobody
	case owner < 0 || owner > 3:
		return api.ErrRange
	case m.owner != nobody:
		return api.ErrBusy
	case m.count != near:
		return api.ErrState
	default:
		m.count++
		m.owner = owner
	}
	return api.OK
}
