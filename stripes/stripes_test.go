package stripes

import (
	"math"
	"slices"
	"testing"

	"rowlock/api"
)

// made is a table of n stripes whose clock has gone on ticks times.
func made(t *testing.T, n, ticks int) *Table {
	t.Helper()
	s := New(n)
	if s == nil {
		t.Fatalf("New(%d) is nil", n)
	}
	for i := range ticks {
		if now, e := s.Tick(); now != uint64(i)+1 || e != api.OK {
			t.Fatalf("Tick is %d, %d", now, e)
		}
	}
	return s
}

// words are the words of all stripes.
func words(s *Table) []uint64 {
	var l []uint64
	for i := range s.Size() {
		w, _ := s.Word(i)
		l = append(l, w)
	}
	return l
}

// is holds a table against the words and the clock that it should have.
func is(t *testing.T, s *Table, clock uint64, want ...uint64) {
	t.Helper()
	if got := words(s); !slices.Equal(got, want) || s.Clock() != clock {
		t.Errorf("words %v, clock %d, not %v, %d", got, s.Clock(), want, clock)
	}
}

func TestNew(t *testing.T) {
	for _, n := range []int{math.MinInt, -1, 0, api.MaxStripes + 1, math.MaxInt} {
		if New(n) != nil {
			t.Errorf("New(%d) is some", n)
		}
	}
	for n := 1; n <= api.MaxStripes; n++ {
		s := New(n)
		if s == nil || s.Size() != n {
			t.Fatalf("New(%d): %v", n, s)
		}
		is(t, s, 0, make([]uint64, n)...)
	}
}

func TestOf(t *testing.T) {
	for n := 1; n <= api.MaxStripes; n++ {
		s := New(n)
		for _, v := range []int{math.MinInt, -8, -1, api.MaxTvars, api.MaxTvars + 1, math.MaxInt} {
			if got := s.Of(v); got != -1 {
				t.Errorf("of %d stripes: Of(%d) is %d", n, v, got)
			}
		}
		for v := range 12 {
			if got := s.Of(v); got != (v*5+3)%n {
				t.Errorf("of %d stripes: Of(%d) is %d", n, v, got)
			}
		}
	}
	if s := New(4); s.Of(2) != 1 || s.Of(0) != 3 || s.Of(11) != 2 {
		t.Error("of 4 stripes")
	}
}

// TestGoes plays one call behind the other on three stripes.
func TestGoes(t *testing.T) {
	s := made(t, 3, 0)
	rows := []struct {
		name  string
		do    func() api.Errno
		want  api.Errno
		words []uint64
	}{
		{"lock", func() api.Errno { return s.Lock(2, 1) }, api.OK, []uint64{0, 5, 0}},
		{"lock again", func() api.Errno { return s.Lock(2, 1) }, api.ErrExist, []uint64{0, 5, 0}},
		{"lock another's", func() api.Errno { return s.Lock(0, 1) }, api.ErrBusy, []uint64{0, 5, 0}},
		{"lock by nobody", func() api.Errno { return s.Lock(-1, 1) }, api.ErrRange, []uint64{0, 5, 0}},
		{"lock by one too many", func() api.Errno { return s.Lock(api.MaxThreads, 0) }, api.ErrRange, []uint64{0, 5, 0}},
		{"lock of no stripe", func() api.Errno { return s.Lock(2, 3) }, api.ErrRange, []uint64{0, 5, 0}},
		{"lock below all", func() api.Errno { return s.Lock(2, -1) }, api.ErrRange, []uint64{0, 5, 0}},
		{"unlock above the clock", func() api.Errno { return s.Unlock(2, 1, 1) }, api.ErrRange, []uint64{0, 5, 0}},
		{"unlock another's above the clock", func() api.Errno { return s.Unlock(0, 1, 1) }, api.ErrRange, []uint64{0, 5, 0}},
		{"unlock another's", func() api.Errno { return s.Unlock(0, 1, 0) }, api.ErrState, []uint64{0, 5, 0}},
		{"unlock a free one", func() api.Errno { return s.Unlock(2, 0, 0) }, api.ErrState, []uint64{0, 5, 0}},
		{"unlock of no stripe", func() api.Errno { return s.Unlock(2, 3, 0) }, api.ErrRange, []uint64{0, 5, 0}},
		{"unlock by nobody", func() api.Errno { return s.Unlock(-1, 1, 0) }, api.ErrRange, []uint64{0, 5, 0}},
		{"restore another's", func() api.Errno { return s.Restore(3, 1) }, api.ErrState, []uint64{0, 5, 0}},
		{"restore a free one", func() api.Errno { return s.Restore(2, 2) }, api.ErrState, []uint64{0, 5, 0}},
		{"restore by nobody", func() api.Errno { return s.Restore(-1, 2) }, api.ErrRange, []uint64{0, 5, 0}},
		{"restore by one too many", func() api.Errno { return s.Restore(4, 1) }, api.ErrRange, []uint64{0, 5, 0}},
		{"restore of no stripe", func() api.Errno { return s.Restore(2, 3) }, api.ErrRange, []uint64{0, 5, 0}},
		{"tick", func() api.Errno { _, e := s.Tick(); return e }, api.OK, []uint64{0, 5, 0}},
		{"tick", func() api.Errno { _, e := s.Tick(); return e }, api.OK, []uint64{0, 5, 0}},
		{"unlock above it still", func() api.Errno { return s.Unlock(2, 1, 3) }, api.ErrRange, []uint64{0, 5, 0}},
		{"unlock with the clock", func() api.Errno { return s.Unlock(2, 1, 2) }, api.OK, []uint64{0, 64, 0}},
		{"unlock what is free", func() api.Errno { return s.Unlock(2, 1, 2) }, api.ErrState, []uint64{0, 64, 0}},
		{"lock by another one", func() api.Errno { return s.Lock(3, 1) }, api.OK, []uint64{0, 71, 0}},
		{"unlock with less than it had", func() api.Errno { return s.Unlock(3, 1, 1) }, api.ErrState, []uint64{0, 71, 0}},
		{"restore", func() api.Errno { return s.Restore(3, 1) }, api.OK, []uint64{0, 64, 0}},
		{"restore what is free", func() api.Errno { return s.Restore(3, 1) }, api.ErrState, []uint64{0, 64, 0}},
		{"lock the first one", func() api.Errno { return s.Lock(0, 0) }, api.OK, []uint64{1, 64, 0}},
		{"unlock below the clock", func() api.Errno { return s.Unlock(0, 0, 1) }, api.OK, []uint64{32, 64, 0}},
		{"lock the last one", func() api.Errno { return s.Lock(0, 2) }, api.OK, []uint64{32, 64, 1}},
		{"unlock as it was", func() api.Errno { return s.Unlock(0, 2, 0) }, api.OK, []uint64{32, 64, 0}},
	}
	for _, r := range rows {
		if e := r.do(); e != r.want || !slices.Equal(words(s), r.words) {
			t.Errorf("%s: %d, %v, not %d, %v", r.name, e, words(s), r.want, r.words)
		}
	}
	is(t, s, 2, 32, 64, 0)
	for i, v := range []uint64{1, 2, 0} {
		if got := s.Version(i); got != v {
			t.Errorf("Version(%d) is %d", i, got)
		}
	}
}

// TestStripesThatAreNotThere: all calls of a stripe, of each that is not there.
func TestStripesThatAreNotThere(t *testing.T) {
	s := made(t, 2, 1)
	s.Lock(1, 0)
	for _, i := range []int{math.MinInt, -1, 2, 3, api.MaxStripes, math.MaxInt} {
		for _, owner := range []int{-1, 1, 9} {
			if e := s.Lock(owner, i); e != api.ErrRange {
				t.Errorf("Lock(%d, %d) is %d", owner, i, e)
			}
			if e := s.Unlock(owner, i, 0); e != api.ErrRange {
				t.Errorf("Unlock(%d, %d) is %d", owner, i, e)
			}
			if e := s.Restore(owner, i); e != api.ErrRange {
				t.Errorf("Restore(%d, %d) is %d", owner, i, e)
			}
		}
		if w, e := s.Word(i); w != 0 || e != api.ErrRange {
			t.Errorf("Word(%d) is %d, %d", i, w, e)
		}
		if owner, ok := s.Owner(i); owner != 0 || ok {
			t.Errorf("Owner(%d) is %d, %v", i, owner, ok)
		}
		if v := s.Version(i); v != 0 {
			t.Errorf("Version(%d) is %d", i, v)
		}
	}
	is(t, s, 1, 3, 0)
}

// TestFarVersions: what is above the clock is refused, however far, and whoever asks.
func TestFarVersions(t *testing.T) {
	s := made(t, 1, 5)
	s.Lock(0, 0)
	for _, v := range []uint64{6, 7, api.MaxVersion, api.MaxVersion + 1, math.MaxUint64} {
		for _, owner := range []int{-1, 0, 1, 4} {
			if e := s.Unlock(owner, 0, v); e != api.ErrRange {
				t.Errorf("Unlock(%d, 0, %d) is %d", owner, v, e)
			}
		}
	}
	is(t, s, 5, 1)
}

func TestDropAndHeld(t *testing.T) {
	s := made(t, 5, 3)
	s.Lock(0, 4)
	s.Unlock(0, 4, 3)
	for _, l := range [][2]int{{3, 4}, {3, 0}, {1, 1}, {3, 2}} {
		if e := s.Lock(l[0], l[1]); e != api.OK {
			t.Fatalf("Lock%v is %d", l, e)
		}
	}
	rows := []struct {
		owner int
		held  []int
	}{
		{-1, nil}, {0, nil}, {1, []int{1}}, {2, nil}, {3, []int{0, 2, 4}}, {4, nil}, {math.MinInt, nil}, {math.MaxInt, nil},
	}
	for _, r := range rows {
		if got := s.Held(r.owner); !slices.Equal(got, r.held) {
			t.Errorf("Held(%d) is %v", r.owner, got)
		}
	}
	before := words(s)
	for _, owner := range []int{math.MinInt, -1, 0, 2, 4, math.MaxInt} {
		if n := s.Drop(owner); n != 0 || !slices.Equal(words(s), before) {
			t.Errorf("Drop(%d) is %d: %v", owner, n, words(s))
		}
	}
	if n := s.Drop(3); n != 3 || len(s.Held(3)) != 0 {
		t.Errorf("Drop(3) is %d, with %v", n, s.Held(3))
	}
	is(t, s, 3, 0, 3, 0, 0, 96)
	if n := s.Drop(3); n != 0 {
		t.Errorf("Drop(3) again is %d", n)
	}
	if n := s.Drop(1); n != 1 {
		t.Errorf("Drop(1) is %d", n)
	}
	is(t, s, 3, 0, 0, 0, 0, 96)
}

func TestOwner(t *testing.T) {
	s := New(4)
	s.Lock(0, 1)
	s.Lock(3, 2)
	rows := []struct {
		stripe, owner int
		ok            bool
	}{{0, 0, false}, {1, 0, true}, {2, 3, true}, {3, 0, false}}
	for _, r := range rows {
		if owner, ok := s.Owner(r.stripe); owner != r.owner || ok != r.ok {
			t.Errorf("Owner(%d) is %d, %v", r.stripe, owner, ok)
		}
	}
}

func TestTick(t *testing.T) {
	s := New(1)
	for i := range uint64(100) {
		if now, e := s.Tick(); now != i+1 || e != api.OK || s.Clock() != i+1 {
			t.Fatalf("Tick %d is %d, %d; the clock is %d", i, now, e, s.Clock())
		}
	}
	s.now = api.MaxVersion - 1 // nobody ticks so often
	if now, e := s.Tick(); now != api.MaxVersion || e != api.OK {
		t.Errorf("the last Tick is %d, %d", now, e)
	}
	if now, e := s.Tick(); now != 0 || e != api.ErrSpace || s.Clock() != api.MaxVersion {
		t.Errorf("a Tick behind the last one is %d, %d; the clock is %d", now, e, s.Clock())
	}
	s.Lock(3, 0)
	if e := s.Unlock(3, 0, api.MaxVersion); e != api.OK || s.Version(0) != api.MaxVersion {
		t.Errorf("Unlock with the last version is %d", e)
	}
}

func TestStripes(t *testing.T) {
	rows := []struct {
		n     int
		tvars []int
		want  []int
	}{
		{4, nil, nil}, {4, []int{}, nil}, {4, []int{2, 6, 0, -1}, []int{1, 3}}, {4, []int{-1, 12, math.MinInt, math.MaxInt}, nil},
		{4, []int{0, 1, 2, 3}, []int{0, 1, 2, 3}}, {4, []int{3, 3, 3}, []int{2}}, {1, []int{0, 5, 11, 12}, []int{0}},
		{8, []int{11, 0, 4, 1, 8}, []int{0, 2, 3, 7}}, {8, []int{5, 5, 12, 0, 5}, []int{3, 4}},
	}
	for _, r := range rows {
		if got := New(r.n).Stripes(r.tvars...); !slices.Equal(got, r.want) {
			t.Errorf("of %d stripes: Stripes(%v) is %v", r.n, r.tvars, got)
		}
	}
}

func TestNilTable(t *testing.T) {
	var s *Table
	for _, i := range []int{-1, 0, 1, 99} {
		if a, b, c := s.Lock(i, i), s.Unlock(i, i, uint64(i)), s.Restore(i, i); a != api.ErrNil || b != api.ErrNil || c != api.ErrNil {
			t.Errorf("Lock, Unlock, Restore of %d: %d, %d, %d", i, a, b, c)
		}
		if w, e := s.Word(i); w != 0 || e != api.ErrNil {
			t.Errorf("Word(%d) is %d, %d", i, w, e)
		}
		if owner, ok := s.Owner(i); owner != 0 || ok {
			t.Errorf("Owner(%d) is %d, %v", i, owner, ok)
		}
		if s.Of(i) != 0 || s.Drop(i) != 0 || s.Version(i) != 0 || len(s.Held(i)) != 0 || len(s.Stripes(i, 1)) != 0 {
			t.Errorf("a nil object has something of %d", i)
		}
	}
	if now, e := s.Tick(); now != 0 || e != api.ErrNil {
		t.Errorf("Tick is %d, %d", now, e)
	}
	if s.Clock() != 0 || s.Size() != 0 || s.Fork() != nil {
		t.Error("a nil object has something")
	}
}

// TestListsAreApart: no list of an answer lies in another one's, or in one that was handed in, whose spare room stays too (P3).
func TestListsAreApart(t *testing.T) {
	s := made(t, 4, 0)
	s.Lock(2, 0)
	s.Lock(2, 3)
	held := s.Held(2)
	room := []int{2, 6, 0, -1, 77, 78}
	whole := slices.Clone(room)
	stripes := s.Stripes(room[:4]...)
	for _, l := range [][]int{s.Held(2), s.Stripes(room[:4]...)} {
		l = l[:cap(l)]
		for i := range l {
			l[i] = 99
		}
	}
	if !slices.Equal(held, []int{0, 3}) || !slices.Equal(s.Held(2), []int{0, 3}) || !slices.Equal(stripes, []int{1, 3}) || !slices.Equal(room, whole) {
		t.Errorf("%v, %v, %v, %v", held, s.Held(2), stripes, room)
	}
}

// TestFork: what becomes of one of them changes nothing of the other one (P4).
func TestFork(t *testing.T) {
	s := made(t, 2, 3)
	s.Lock(1, 0)
	f := s.Fork()
	if f == s || f.Size() != 2 {
		t.Fatalf("Fork: %v", f)
	}
	is(t, f, 3, 3, 0)
	f.Unlock(1, 0, 2)
	f.Lock(2, 1)
	f.Tick()
	is(t, f, 4, 64, 5)
	is(t, s, 3, 3, 0)
	s.Drop(1)
	s.Lock(0, 1)
	is(t, f, 4, 64, 5)
	is(t, s, 3, 0, 1)
}

// TestApart: two tables share nothing (P6).
func TestApart(t *testing.T) {
	s := made(t, 2, 2)
	s.Lock(1, 1)
	is(t, New(2), 0, 0, 0)
}

// state is what a stripe should be.
type state struct {
	owner   int
	version uint64
}

// TestManyCalls plays many calls, wrong ones among them, beside a plain list of owners and versions: versions never fall, and are never above the clock (P4.3); a stripe has one owner at most (P4.4).
func TestManyCalls(t *testing.T) {
	x := uint64(11)
	below := func(n int) int {
		x = x*6364136223846793005 + 1442695040888963407
		return int((x >> 33) % uint64(n))
	}
	for _, n := range []int{1, 3, api.MaxStripes} {
		s, model := New(n), slices.Repeat([]state{{-1, 0}}, n)
		for range 3000 {
			old := s.Fork()
			play(t, s, model, below(6), below(6)-1, below(n+2)-1, uint64(below(int(s.Clock())+2)))
			for i, m := range model {
				owner, ok := s.Owner(i)
				if ok != (m.owner >= 0) || ok && owner != m.owner || s.Version(i) != m.version {
					t.Fatalf("stripe %d: %d, %v, %d, not %v", i, owner, ok, s.Version(i), m)
				}
				if s.Version(i) < old.Version(i) || s.Version(i) > s.Clock() || s.Clock() < old.Clock() {
					t.Fatalf("stripe %d: version %d behind %d, clock %d", i, s.Version(i), old.Version(i), s.Clock())
				}
			}
			had := 0
			for owner := range api.MaxThreads {
				had += len(s.Held(owner))
			}
			for i := range n {
				if _, ok := s.Owner(i); ok {
					had--
				}
			}
			if had != 0 {
				t.Fatal("Held and Owner are not of one mind")
			}
		}
		if s.Clock() < 100 {
			t.Errorf("the clock is only %d", s.Clock())
		}
	}
}

// play does one call to s, and to model what should become of it.
func play(t *testing.T, s *Table, model []state, what, owner, stripe int, version uint64) {
	t.Helper()
	there := stripe >= 0 && stripe < len(model) && owner >= 0 && owner < api.MaxThreads
	want, got := api.ErrRange, api.OK
	switch what {
	case 0, 1:
		got = s.Lock(owner, stripe)
		if there {
			switch model[stripe].owner {
			case -1:
				want, model[stripe].owner = api.OK, owner
			case owner:
				want = api.ErrExist
			default:
				want = api.ErrBusy
			}
		}
	case 2:
		now := s.Clock()
		got = s.Unlock(owner, stripe, version)
		if there && version <= now {
			want = api.ErrState
			if m := &model[stripe]; m.owner == owner && m.version <= version {
				want, *m = api.OK, state{-1, version}
			}
		}
	case 3:
		got = s.Restore(owner, stripe)
		if there {
			want = api.ErrState
			if m := &model[stripe]; m.owner == owner {
				want, m.owner = api.OK, -1
			}
		}
	case 4:
		n := 0
		for i := range model {
			if m := &model[i]; m.owner == owner && owner >= 0 {
				m.owner = -1
				n++
			}
		}
		want = api.Errno(n)
		got = api.Errno(s.Drop(owner))
	case 5:
		want = api.OK
		_, got = s.Tick()
	}
	if got != want {
		t.Fatalf("call %d of %d, %d, %d: %d, not %d", what, owner, stripe, version, got, want)
	}
}
