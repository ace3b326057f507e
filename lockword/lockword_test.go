package lockword

import (
	"math"
	"testing"

	"rowlock/api"
)

const last = api.MaxVersion

// versions and owners have those that may be, and those that may not.
var (
	versions = []uint64{0, 1, 2, 3, 31, 32, 1 << 20, last - 1, last, last + 1, last + 2, 1 << 41, 1 << 58, 1<<59 - 1, 1 << 59, 1 << 63, math.MaxUint64}
	owners   = []int{math.MinInt, -2, -1, 0, 1, 2, api.MaxThreads - 1, api.MaxThreads, 8, 15, 16, 1 << 40, math.MaxInt}
)

func mayOwn(owner int) bool { return owner == 0 || owner == 1 || owner == 2 || owner == 3 }

// said is what a right word says.
type said struct {
	owner   int
	version uint64
}

// rightWords are all right words of the versions that may be, reckoned as the document has it.
func rightWords() map[uint64]said {
	m := map[uint64]said{}
	for _, v := range versions {
		if v > last {
			continue
		}
		m[v*32] = said{-1, v}
		for o := range 4 {
			m[v*32+uint64(o)*2+1] = said{o, v}
		}
	}
	return m
}

// words are right ones, and many that are not: of each version that fits all that its lower bits can be.
func words() []uint64 {
	l := []uint64{math.MaxUint64, math.MaxUint64 - 1, 1 << 63, 1 << 62, 1<<46 - 1}
	for _, v := range versions {
		for low := range uint64(32) {
			if v < 1<<59 {
				l = append(l, v*32+low)
			}
		}
	}
	return l
}

func TestFreeAndHeld(t *testing.T) {
	rows := []struct {
		owner   int
		version uint64
		word    uint64
		want    api.Errno
	}{
		{-1, 0, 0, api.OK}, {-1, 1, 32, api.OK}, {-1, 5, 160, api.OK}, {-1, last - 1, 1<<45 - 32, api.OK}, {-1, last, 1 << 45, api.OK},
		{-1, last + 1, 0, api.ErrRange}, {-1, 1 << 59, 0, api.ErrRange}, {-1, math.MaxUint64, 0, api.ErrRange},
		{0, 0, 1, api.OK}, {3, 0, 7, api.OK}, {2, 3, 101, api.OK}, {0, 1, 33, api.OK}, {1, last, 1<<45 + 3, api.OK}, {3, last, 1<<45 + 7, api.OK},
		{4, 0, 0, api.ErrRange}, {4, last + 1, 0, api.ErrRange}, {0, last + 1, 0, api.ErrRange}, {3, math.MaxUint64, 0, api.ErrRange},
		{-2, 0, 0, api.ErrRange}, {16, 1, 0, api.ErrRange}, {math.MinInt, 1, 0, api.ErrRange}, {math.MaxInt, 1, 0, api.ErrRange},
	}
	for _, r := range rows {
		if r.owner == -1 {
			if w, e := Free(r.version); w != r.word || e != r.want {
				t.Errorf("Free(%d) is %d, %d", r.version, w, e)
			}
		} else if w, e := Held(r.owner, r.version); w != r.word || e != r.want {
			t.Errorf("Held(%d, %d) is %d, %d", r.owner, r.version, w, e)
		}
	}
	for _, v := range versions {
		if w, e := Held(-1, v); w != 0 || e != api.ErrRange {
			t.Errorf("Held(-1, %d) is %d, %d", v, w, e)
		}
	}
}

func TestReadAndRight(t *testing.T) {
	right := rightWords()
	for _, w := range words() {
		s, ok := right[w]
		want := api.OK
		if !ok {
			want = api.ErrForm
		}
		if owner, version, e := Read(w); owner != s.owner || version != s.version || e != want {
			t.Errorf("Read(%d) is %d, %d, %d, not %v, %d", w, owner, version, e, s, want)
		}
		if Right(w) != ok {
			t.Errorf("Right(%d) is %v", w, !ok)
		}
	}
	for w, ok := range map[uint64]bool{0: true, 1: true, 2: false, 7: true, 8: false, 9: false, 30: false, 31: false, 32: true, 1 << 45: true, 1<<45 + 7: true, 1<<45 + 9: false, 1<<45 + 32: false} {
		if Right(w) != ok {
			t.Errorf("Right(%d) is %v", w, !ok)
		}
	}
}

// TestReadTakesBack: Read takes Free and Held back (P3.3).
func TestReadTakesBack(t *testing.T) {
	for _, v := range versions {
		if w, e := Free(v); e == api.OK {
			if owner, version, e := Read(w); owner != -1 || version != v || e != api.OK {
				t.Errorf("Free(%d) is read as %d, %d, %d", v, owner, version, e)
			}
		}
		for _, o := range owners {
			w, e := Held(o, v)
			if e != api.OK {
				continue
			}
			if owner, version, e := Read(w); owner != o || version != v || e != api.OK {
				t.Errorf("Held(%d, %d) is read as %d, %d, %d", o, v, owner, version, e)
			}
		}
	}
}

// TestUnlikeWords: unlike right words say unlike things (P3.5).
func TestUnlikeWords(t *testing.T) {
	seen := map[said]uint64{}
	for _, w := range words() {
		owner, version, e := Read(w)
		if e != api.OK {
			continue
		}
		s := said{owner, version}
		if other, ok := seen[s]; ok && other != w {
			t.Errorf("%d and %d both say %v", w, other, s)
		}
		seen[s] = w
	}
	if len(seen) != 9*5 {
		t.Errorf("%d right words", len(seen))
	}
}

func TestNext(t *testing.T) {
	for _, v := range versions {
		word, want := v+1, api.OK
		if v == last {
			word, want = 0, api.ErrSpace
		} else if v > last {
			word, want = 0, api.ErrRange
		}
		if got, e := Next(v); got != word || e != want {
			t.Errorf("Next(%d) is %d, %d", v, got, e)
		}
	}
}

func TestLock(t *testing.T) {
	right := rightWords()
	for _, w := range words() {
		for _, o := range owners {
			s, ok := right[w]
			word, want := uint64(0), api.ErrBusy
			switch {
			case !ok:
				want = api.ErrForm
			case !mayOwn(o):
				want = api.ErrRange
			case s.owner == o:
				want = api.ErrExist
			case s.owner == -1:
				word, want = s.version*32+uint64(o)*2+1, api.OK
			}
			if got, e := Lock(w, o); got != word || e != want {
				t.Errorf("Lock(%d, %d) is %d, %d, not %d, %d", w, o, got, e, word, want)
			}
		}
	}
	for _, r := range []struct {
		w     uint64
		owner int
		word  uint64
		want  api.Errno
	}{
		{96, 2, 101, api.OK}, {101, 2, 0, api.ErrExist}, {101, 1, 0, api.ErrBusy}, {101, 4, 0, api.ErrRange}, {101, -1, 0, api.ErrRange},
		{2, 4, 0, api.ErrForm}, {9, -1, 0, api.ErrForm}, {96, -1, 0, api.ErrRange}, {1 << 45, 3, 1<<45 + 7, api.OK},
	} {
		if got, e := Lock(r.w, r.owner); got != r.word || e != r.want {
			t.Errorf("Lock(%d, %d) is %d, %d", r.w, r.owner, got, e)
		}
	}
}

func TestUnlock(t *testing.T) {
	right := rightWords()
	for _, w := range words() {
		for _, o := range owners {
			for _, v := range versions {
				s, ok := right[w]
				word, want := uint64(0), api.ErrState
				switch {
				case !ok:
					want = api.ErrForm
				case !mayOwn(o) || v > last:
					want = api.ErrRange
				case s.owner == o && v >= s.version:
					word, want = v*32, api.OK
				}
				if got, e := Unlock(w, o, v); got != word || e != want {
					t.Errorf("Unlock(%d, %d, %d) is %d, %d, not %d, %d", w, o, v, got, e, word, want)
				}
			}
		}
	}
	for _, r := range []struct {
		w       uint64
		owner   int
		version uint64
		word    uint64
		want    api.Errno
	}{
		{101, 2, 5, 160, api.OK}, {101, 2, 3, 96, api.OK}, {101, 2, last, 1 << 45, api.OK}, {101, 2, 2, 0, api.ErrState},
		{101, 1, 5, 0, api.ErrState}, {96, 2, 5, 0, api.ErrState}, {101, 1, last + 1, 0, api.ErrRange}, {101, -1, 2, 0, api.ErrRange},
		{101, 4, 5, 0, api.ErrRange}, {96, -1, 3, 0, api.ErrRange}, {2, 4, last + 1, 0, api.ErrForm},
	} {
		if got, e := Unlock(r.w, r.owner, r.version); got != r.word || e != r.want {
			t.Errorf("Unlock(%d, %d, %d) is %d, %d", r.w, r.owner, r.version, got, e)
		}
	}
}

func TestRestore(t *testing.T) {
	right := rightWords()
	for _, w := range words() {
		for _, o := range owners {
			s, ok := right[w]
			word, want := uint64(0), api.ErrState
			switch {
			case !ok:
				want = api.ErrForm
			case !mayOwn(o):
				want = api.ErrRange
			case s.owner == o:
				word, want = s.version*32, api.OK
			}
			if got, e := Restore(w, o); got != word || e != want {
				t.Errorf("Restore(%d, %d) is %d, %d, not %d, %d", w, o, got, e, word, want)
			}
		}
	}
}

// TestRestoreTakesBack: Restore takes Lock back (P3.4).
func TestRestoreTakesBack(t *testing.T) {
	n := 0
	for _, w := range words() {
		for _, o := range owners {
			locked, e := Lock(w, o)
			if e != api.OK {
				continue
			}
			n++
			if got, e := Restore(locked, o); got != w || e != api.OK {
				t.Errorf("Restore of Lock(%d, %d) is %d, %d", w, o, got, e)
			}
		}
	}
	if n != 9*4 {
		t.Errorf("%d words were locked", n)
	}
}

func TestPasses(t *testing.T) {
	right := rightWords()
	for _, w := range words() {
		for _, o := range owners {
			for _, v := range versions {
				s, ok := right[w]
				want := ok && (s.owner == -1 || s.owner == o) && s.version <= v
				if Passes(w, o, v) != want {
					t.Errorf("Passes(%d, %d, %d) is %v", w, o, v, !want)
				}
			}
		}
	}
	for _, r := range []struct {
		w       uint64
		owner   int
		version uint64
		want    bool
	}{
		{101, 2, 3, true}, {101, 2, 2, false}, {101, 1, 3, false}, {101, -1, 3, false}, {96, 1, 3, true}, {96, 1, 2, false},
		{96, -1, 3, true}, {96, 99, math.MaxUint64, true}, {0, 0, 0, true}, {2, 0, 9, false}, {9, 4, 9, false},
	} {
		if Passes(r.w, r.owner, r.version) != r.want {
			t.Errorf("Passes(%d, %d, %d) is %v", r.w, r.owner, r.version, !r.want)
		}
	}
}
