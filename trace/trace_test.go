package trace

import (
	"fmt"
	"math"
	"slices"
	"strings"
	"testing"

	"rowlock/api"
	"rowlock/history"
)

// prints holds Print against a text, and Parse of that against the events.
func prints(t *testing.T, l []api.Event, want string) {
	t.Helper()
	if s, e := Print(l); e != api.OK || s != want {
		t.Errorf("Print(%v) is %q, %d, not %q", l, s, e, want)
	}
	if back, e := Parse(want); e != api.OK || !slices.Equal(back, l) {
		t.Errorf("Parse(%q) is %v, %d, not %v", want, back, e, l)
	}
}

// refuses holds Parse of a text against ErrForm.
func refuses(t *testing.T, s string) {
	t.Helper()
	if l, e := Parse(s); e != api.ErrForm || len(l) != 0 {
		t.Errorf("Parse(%q) is %v, %d", s, l, e)
	}
}

// TestExample: that of the chapter.
func TestExample(t *testing.T) {
	prints(t, []api.Event{{Kind: api.Began}, read(0, 1, 0)}, "begin 0\nread 0 1 0000000000000000\n")
}

// TestLines: no events, and each kind.
func TestLines(t *testing.T) {
	prints(t, nil, "")
	prints(t, []api.Event{}, "")
	prints(t, of(0, api.Began), "begin 0\n")
	prints(t, slices.Concat(of(7, api.Began), []api.Event{read(7, 3, two), wrote(7, 3, api.One)}, of(7, api.Pushed, api.Dropped, api.Pushed, api.Merged, api.Tried, api.Committed)),
		"begin 7\nread 7 3 4000000000000000\nwrite 7 3 3ff0000000000000\npush 7\ndrop 7\npush 7\nmerge 7\ntry 7\ncommit 7\n")
	prints(t, slices.Concat(of(10, api.Began), of(1, api.Began), of(10, api.Aborted), of(1, api.Tried, api.Aborted)), "begin 10\nbegin 1\nabort 10\ntry 1\nabort 1\n")
}

// TestGreatest: the greatest number of an attempt and of a variable, and one more.
func TestGreatest(t *testing.T) {
	prints(t, append(of(63, api.Began), wrote(63, 11, api.One)), "begin 63\nwrite 63 11 3ff0000000000000\n")
	for _, l := range [][]api.Event{of(64, api.Began), of(-1, api.Began), append(of(0, api.Began), wrote(0, 12, 0)), append(of(0, api.Began), read(0, -1, 0))} {
		if s, e := Print(l); e != api.ErrForm || s != "" {
			t.Errorf("Print(%v) is %q, %d", l, s, e)
		}
	}
	refuses(t, "begin 64\n")
	refuses(t, "begin -1\n")
	refuses(t, "begin 0\nwrite 0 12 0000000000000000\n")
	refuses(t, "begin 0\nread 0 -1 0000000000000000\n")
	refuses(t, "begin 18446744073709551616\n")
	refuses(t, "begin 0\nread 0 18446744073709551616 0000000000000000\n")
	refuses(t, "begin "+strings.Repeat("9", 400)+"\n")
}

// TestValues: of all classes, and bits that are not right.
func TestValues(t *testing.T) {
	for v, digits := range map[api.Val]string{0: "0000000000000000", api.NegZero: "8000000000000000", api.Infinity: "7ff0000000000000", api.Infinity | api.NegZero: "fff0000000000000", api.NaN: "7ff8000000000000", 1: "0000000000000001", 0xfedcba9876543210: "fedcba9876543210"} {
		prints(t, append(of(2, api.Began), read(2, 0, v), wrote(2, 0, v)), "begin 2\nread 2 0 "+digits+"\nwrite 2 0 "+digits+"\n")
	}
	for _, v := range []api.Val{notRight, api.NaN | api.NegZero, api.Infinity + 1, math.MaxUint64} {
		if s, e := Print(append(of(2, api.Began), read(2, 0, v))); e != api.ErrForm || s != "" {
			t.Errorf("Print of %x is %q, %d", uint64(v), s, e)
		}
		refuses(t, fmt.Sprintf("begin 2\nread 2 0 %016x\n", uint64(v)))
	}
}

// wrong are events that are not right.
func wrong() [][]api.Event {
	long := of(0, api.Began)
	for len(long) <= api.MaxEvents {
		long = append(long, read(0, 1, two))
	}
	return [][]api.Event{
		of(0, api.NoEvent), of(0, 10), of(0, 255), of(0, api.Read), of(0, api.Aborted), of(0, api.Began, api.Began), of(0, api.Began, api.Committed),
		of(0, api.Began, api.Dropped), of(0, api.Began, api.Pushed, api.Tried), of(0, api.Began, api.Tried, api.Read), of(0, api.Began, api.Aborted, api.Read),
		of(0, api.Began, 10), of(-1, api.Began), of(64, api.Began), of(math.MinInt, api.Began), of(math.MaxInt, api.Began),
		{{Kind: api.Began, Tvar: 1}}, {{Kind: api.Began, Val: 1}}, {{Kind: api.Began, Val: api.NegZero}}, append(of(0, api.Began), wrote(0, 1, notRight)), long,
	}
}

func TestPrintOfWrong(t *testing.T) {
	for _, l := range wrong() {
		if s, e := Print(l); e != api.ErrForm || s != "" {
			t.Errorf("Print(%v) is %q, %d", l, s, e)
		}
	}
}

// TestParseOfWrong: lines of other forms, and lines whose events are not right.
func TestParseOfWrong(t *testing.T) {
	for _, s := range []string{
		"begin 0", "begin 0\ntry 0", "\n", "\n\n", "\nbegin 0\n", "begin 0\n\n", "begin 0\n\ntry 0\n", "begin 0\r\n", "begin 0\x00\n", "begin 0\n ", "begin 0\n\x00",
		" begin 0\n", "begin  0\n", "begin 0 \n", "begin0\n", "begin\n", "begin \n", "begin\t0\n", " \n", "   \n", "0 begin\n", "0\n",
		"begin 00\n", "begin 01\n", "begin 007\n", "begin +0\n", "begin -0\n", "begin +1\n", "begin 0x1\n", "begin 1_0\n", "begin 1e1\n", "begin 1.0\n", "begin a\n", "begin ١\n", "begin １\n", "begin 0\xff\n", "begin \xff\n",
		"Begin 0\n", "BEGIN 0\n", "began 0\n", "foo 0\n", "beginn 0\n", "egin 0\n", "\xff 0\n", "begin 0 0\n", "begin 0 0 0000000000000000\n", "beg in 0\n", "none 0\n", " 0\n", "no 0\n",
		"begin 0\nread 0\n", "begin 0\nread 0 1\n", "begin 0\nread 0 1 \n", "begin 0\nread 0 1 0\n", "begin 0\nread 0  1 0000000000000000\n", "begin 0\nread 0 1  0000000000000000\n", "begin 0\nread 0 1 0000000000000000 \n",
		"begin 0\nread 0 1 0000000000000000 0\n", "begin 0\nread 0 0000000000000000\n", "begin 0\nread 0 01 0000000000000000\n", "begin 0\nread 00 1 0000000000000000\n", "begin 0\nread 0 +1 0000000000000000\n", "begin 0\nread 0 -0 0000000000000000\n",
		"begin 0\nread 0 1 000000000000000\n", "begin 0\nread 0 1 00000000000000000\n", "begin 0\nread 0 1 3FF0000000000000\n", "begin 0\nread 0 1 3ff000000000000g\n", "begin 0\nread 0 1 x3ff000000000000\n", "begin 0\nread 0 1 7ff8000000000001\n", "begin 0\nwrite 0 a 0000000000000000\n",
		"begin 0\nread 0 1 000000000000000\xff\n", "begin 0\nwrote 0 1 0000000000000000\n", "begin 0\ntry 0 1\n", "begin 0\ntried 0\n", "begin 0\npushed 0\n", "begin 0\ncommit\n", "begin 0\nabort 0 0\n",
		"read 0 1 0000000000000000\n", "try 0\n", "begin 0\nbegin 0\n", "begin 0\ncommit 0\n", "begin 0\ndrop 0\n", "begin 0\nmerge 0\n", "begin 0\npush 0\ntry 0\n", "begin 0\nabort 0\nabort 0\n", "begin 0\ntry 1\n", "begin 0\ntry 0\nread 0 1 0000000000000000\n",
	} {
		refuses(t, s)
	}
}

// TestLength: MaxEvents lines, and one more.
func TestLength(t *testing.T) {
	s := "begin 0\n" + strings.Repeat("read 0 1 0000000000000000\n", api.MaxEvents-1)
	if l, e := Parse(s); e != api.OK || len(l) != api.MaxEvents {
		t.Errorf("Parse of MaxEvents lines is %d events, %d", len(l), e)
	}
	refuses(t, s+"abort 0\n")
	refuses(t, s+"read 0 1 0000000000000000")
	refuses(t, "begin 0\n"+strings.Repeat("read 0 1 0000000000000000\n", 100000))
}

// TestBackAndForth: P25.2: over many drawn events Print is as the chapter tells it, and Parse takes it back; of texts that are spoilt Parse takes just what Print tells.
func TestBackAndForth(t *testing.T) {
	draw := numbers(252)
	kept := 0
	for range 6000 {
		l := drawnRight(draw, 1+draw(4))
		if draw(8) == 0 {
			l = drawnAny(draw)
		}
		want, errno := modelPrint(l)
		s, e := Print(l)
		if s != want || e != errno {
			t.Fatalf("Print(%v) is %q, %d, not %q, %d", l, s, e, want, errno)
		}
		if back, e := Parse(s); e != api.OK || errno == api.OK && !slices.Equal(back, l) {
			t.Fatalf("Parse(%q) is %v, %d, not %v", s, back, e, l)
		}
		other := spoilt(draw, s)
		events, errno := modelParse(other)
		if got, e := Parse(other); e != errno || !slices.Equal(got, events) {
			t.Fatalf("Parse(%q) is %v, %d, not %v, %d", other, got, e, events, errno)
		}
		if errno == api.OK && len(events) > 2 && other != s {
			kept++
		}
	}
	if kept < 100 {
		t.Errorf("just %d spoilt texts were right", kept)
	}
}

// TestCounts: of no events, of states of all kinds, and of events that are not right.
func TestCounts(t *testing.T) {
	rows := []struct {
		name string
		l    []api.Event
		want api.Counts
	}{
		{"nil", nil, api.Counts{}},
		{"none", []api.Event{}, api.Counts{}},
		{"live", of(0, api.Began), api.Counts{Attempts: 1, Open: 1}},
		{"pending", of(0, api.Began, api.Tried), api.Counts{Attempts: 1, Open: 1}},
		{"committed", of(0, api.Began, api.Tried, api.Committed), api.Counts{Attempts: 1, Commits: 1}},
		{"aborted", of(0, api.Began, api.Tried, api.Aborted), api.Counts{Attempts: 1, Aborts: 1}},
		{"all", slices.Concat(of(0, api.Began, api.Tried, api.Committed), of(1, api.Began, api.Aborted), of(2, api.Began, api.Tried), of(3, api.Began), of(4, api.Began, api.Aborted)), api.Counts{Attempts: 5, Commits: 1, Aborts: 2, Open: 2}},
		{"variables", append(of(0, api.Began), read(0, 1, 0), wrote(0, 1, 0), read(0, 1, 0), read(0, 2, two)), api.Counts{Attempts: 1, Open: 1, Reads: 3, Writes: 1}},
		{"not begun", []api.Event{read(3, 1, 0), wrote(4, 99, notRight), wrote(-1, -1, 0), {Kind: api.Committed}}, api.Counts{Reads: 1, Writes: 2}},
		{"begun twice", of(0, api.Began, api.Began, api.Aborted, api.Began), api.Counts{Attempts: 1, Aborts: 1}},
		{"ended twice", of(0, api.Began, api.Committed, api.Aborted), api.Counts{Attempts: 1, Aborts: 1}},
		{"ended ahead", of(0, api.Committed, api.Began), api.Counts{Attempts: 1, Commits: 1}},
		{"tried behind", of(0, api.Began, api.Committed, api.Tried), api.Counts{Attempts: 1, Open: 1}},
		{"strange numbers", slices.Concat(of(-1, api.Began, api.Aborted), of(64, api.Began), of(math.MaxInt, api.Began, api.Committed), of(math.MinInt, api.Began)), api.Counts{Attempts: 4, Commits: 1, Aborts: 1, Open: 2}},
		{"no kinds", of(0, api.NoEvent, 10, 255), api.Counts{}},
	}
	for _, r := range rows {
		if got := CountsOf(r.l); got != r.want {
			t.Errorf("%s: %+v, not %+v", r.name, got, r.want)
		}
	}
}

// TestBusiest: the least of those that have as many, and none that is no variable.
func TestBusiest(t *testing.T) {
	rows := []struct {
		name string
		l    []api.Event
		tvar int
		ok   bool
	}{
		{"nil", nil, 0, false},
		{"none touched", of(0, api.Began, api.Pushed, api.Merged, api.Tried, api.Committed), 0, false},
		{"the first one", []api.Event{read(0, 0, 0)}, 0, true},
		{"the last one", []api.Event{wrote(0, 11, 0)}, 11, true},
		{"the most", []api.Event{read(0, 2, 0), read(0, 5, 0), wrote(1, 5, 0)}, 5, true},
		{"as many", []api.Event{read(0, 7, 0), wrote(0, 3, 0), read(0, 9, 0)}, 3, true},
		{"as many, twice", []api.Event{wrote(0, 8, 0), read(0, 4, 0), wrote(0, 4, 0), read(1, 8, 0), read(1, 1, 0)}, 4, true},
		{"none that are variables", []api.Event{read(0, -1, 0), read(0, 12, 0), wrote(0, math.MaxInt, 0), wrote(0, math.MinInt, 0)}, 0, false},
		{"few that are", []api.Event{read(0, -1, 0), read(0, 12, 0), read(0, 12, 0), wrote(0, 6, 0)}, 6, true},
		{"strange ones", []api.Event{{Kind: api.Began, Tvar: 3}, {Kind: 10, Tvar: 3}, {Kind: api.NoEvent, Tvar: 3}, wrote(-9, 6, notRight)}, 6, true},
	}
	for _, r := range rows {
		if tvar, ok := Busiest(r.l); tvar != r.tvar || ok != r.ok {
			t.Errorf("%s: %d, %v, not %d, %v", r.name, tvar, ok, r.tvar, r.ok)
		}
	}
}

// merges holds Merge against an error.
func merges(t *testing.T, a, b []api.Event, want api.Errno) []api.Event {
	t.Helper()
	l, e := Merge(a, b)
	if e != want || e != api.OK && len(l) != 0 {
		t.Errorf("Merge(%v, %v) is %v, %d, not %d", a, b, l, e, want)
	}
	return l
}

func TestMerge(t *testing.T) {
	a := slices.Concat(of(5, api.Began), of(2, api.Began), []api.Event{wrote(2, 3, two)})
	b := slices.Concat(of(1, api.Began), []api.Event{read(1, 11, api.NaN)}, of(0, api.Began, api.Aborted))
	want := slices.Concat(a, of(7, api.Began), []api.Event{read(7, 11, api.NaN)}, of(6, api.Began, api.Aborted))
	if l := merges(t, a, b, api.OK); !slices.Equal(l, want) {
		t.Errorf("Merge is %v, not %v", l, want)
	}
	if l := merges(t, a, nil, api.OK); !slices.Equal(l, a) {
		t.Errorf("Merge with none is %v", l)
	}
	if l := merges(t, nil, a, api.OK); !slices.Equal(l, a) {
		t.Errorf("Merge of none is %v", l)
	}
	if l := merges(t, nil, nil, api.OK); len(l) != 0 {
		t.Errorf("Merge of none with none is %v", l)
	}
}

// reading are so many right events of one attempt.
func reading(attempt, n int) []api.Event {
	l := of(attempt, api.Began)
	for len(l) < n {
		l = append(l, read(attempt, 0, 0))
	}
	return l
}

// TestMergeSpace: just MaxEvents events and one more, numbers just below MaxAttempts and one more.
func TestMergeSpace(t *testing.T) {
	if l := merges(t, reading(0, 150), reading(0, 250), api.OK); len(l) != api.MaxEvents {
		t.Errorf("%d events", len(l))
	}
	merges(t, reading(0, 150), reading(0, 251), api.ErrSpace)
	merges(t, reading(0, 151), reading(0, 250), api.ErrSpace)
	merges(t, reading(0, 400), reading(0, 1), api.ErrSpace)
	merges(t, reading(0, 1), reading(0, 400), api.ErrSpace)
	merges(t, reading(0, 400), nil, api.OK)
	merges(t, nil, reading(0, 400), api.OK)
	for high := range api.MaxAttempts - 1 {
		if l := merges(t, of(high, api.Began), of(62-high, api.Began), api.OK); len(l) != 2 || l[1].Attempt != 63 {
			t.Errorf("of %d: %v", high, l)
		}
		merges(t, of(high, api.Began), of(63-high, api.Began), api.ErrSpace)
		merges(t, of(high, api.Began), slices.Concat(of(63-high, api.Began), of(0, api.Began)), api.ErrSpace)
	}
	for high := range api.MaxAttempts {
		merges(t, of(high, api.Began), nil, api.OK)
		merges(t, nil, of(high, api.Began), api.OK)
	}
	merges(t, of(63, api.Began), of(0, api.Began), api.ErrSpace)
	merges(t, slices.Concat(of(63, api.Began), of(0, api.Began)), of(0, api.Began), api.ErrSpace)
	merges(t, of(0, api.Began), slices.Concat(of(63, api.Began), of(0, api.Began)), api.ErrSpace)
}

// TestMergeErrors: what is not right comes ahead of what there is no room for.
func TestMergeErrors(t *testing.T) {
	for _, l := range wrong() {
		merges(t, l, nil, api.ErrForm)
		merges(t, nil, l, api.ErrForm)
		merges(t, l, l, api.ErrForm)
		merges(t, l, of(63, api.Began), api.ErrForm)
		merges(t, of(63, api.Began), l, api.ErrForm)
		merges(t, reading(0, 400), l, api.ErrForm)
		merges(t, l, reading(63, 400), api.ErrForm)
	}
}

// TestConflicts: which pairs have met, of right events and of others.
func TestConflicts(t *testing.T) {
	both := slices.Concat(of(0, api.Began), of(1, api.Began))
	ended := of(0, api.Began, api.Aborted)
	rows := []struct {
		name string
		l    []api.Event
		want [][2]int
	}{
		{"nil", nil, nil},
		{"one", append(of(0, api.Began), wrote(0, 1, 0), read(0, 1, 0)), nil},
		{"nothing touched", both, nil},
		{"both read", append(both, read(0, 1, 0), read(1, 1, 0)), nil},
		{"one reads, one writes", append(both, read(0, 1, 0), wrote(1, 1, 0)), [][2]int{{0, 1}}},
		{"one writes, one reads", append(both, wrote(0, 1, 0), read(1, 1, 0)), [][2]int{{0, 1}}},
		{"both write", append(both, wrote(1, 1, 0), wrote(0, 1, 0)), [][2]int{{0, 1}}},
		{"unlike variables", append(both, wrote(0, 1, 0), wrote(1, 2, 0), read(0, 3, 0), read(1, 3, 0)), nil},
		{"writes and reads", append(both, wrote(0, 1, 0), read(0, 1, 0), read(1, 1, 0)), [][2]int{{0, 1}}},
		{"reads and writes", append(both, read(0, 1, 0), wrote(0, 1, 0), read(1, 1, 0)), [][2]int{{0, 1}}},
		{"the greater one first", slices.Concat(of(9, api.Began), of(4, api.Began), []api.Event{wrote(4, 0, 0), read(9, 0, 0)}), [][2]int{{9, 4}}},
		{"one at a time", slices.Concat(of(0, api.Began), []api.Event{wrote(0, 1, 0)}, of(0, api.Aborted), of(1, api.Began), []api.Event{wrote(1, 1, 0)}), nil},
		{"it ended behind", slices.Concat(of(0, api.Began), []api.Event{wrote(0, 1, 0)}, of(1, api.Began), of(0, api.Aborted), []api.Event{wrote(1, 1, 0)}), [][2]int{{0, 1}}},
		{"three", slices.Concat(of(2, api.Began), of(0, api.Began), of(1, api.Began), []api.Event{read(1, 1, 0), wrote(0, 1, 0), read(2, 1, 0)}), [][2]int{{2, 0}, {0, 1}}},
		{"all of three", slices.Concat(of(2, api.Began), of(0, api.Began), of(1, api.Began), []api.Event{wrote(1, 1, 0), wrote(0, 1, 0), wrote(2, 1, 0)}), [][2]int{{2, 0}, {2, 1}, {0, 1}}},
		{"touched ahead of Began", slices.Concat([]api.Event{wrote(0, 1, 0)}, both, []api.Event{read(1, 1, 0)}), [][2]int{{0, 1}}},
		{"not begun", append(ended, wrote(1, 1, 0), read(0, 1, 0)), nil},
		{"no variables", append(both, wrote(0, -1, 0), read(1, -1, 0)), [][2]int{{0, 1}}},
		{"beyond all variables", append(both, wrote(0, 12, notRight), read(1, 12, 0)), [][2]int{{0, 1}}},
		{"begun twice", slices.Concat(of(0, api.Began), of(1, api.Began), of(0, api.Aborted), of(1, api.Began), []api.Event{wrote(0, 1, 0), wrote(1, 1, 0)}), [][2]int{{0, 1}}},
		{"ended ahead of both", slices.Concat(of(1, api.Aborted), both, []api.Event{wrote(0, 1, 0), wrote(1, 1, 0)}), nil},
		{"ended twice", slices.Concat(of(0, api.Began, api.Aborted), of(1, api.Began), of(0, api.Aborted), []api.Event{wrote(0, 1, 0), wrote(1, 1, 0)}), nil},
		{"committed", slices.Concat(of(0, api.Began), []api.Event{wrote(0, 1, 0)}, of(0, api.Committed), of(1, api.Began), []api.Event{wrote(1, 1, 0)}), nil},
		{"strange numbers", slices.Concat(of(math.MaxInt, api.Began), of(-1, api.Began), []api.Event{wrote(-1, 0, 0), wrote(math.MaxInt, 0, 0)}), [][2]int{{math.MaxInt, -1}}},
		{"no kinds", append(both, api.Event{Kind: 10, Tvar: 1}, api.Event{Kind: api.NoEvent, Attempt: 1, Tvar: 1}, api.Event{Kind: api.Tried, Tvar: 1}, wrote(1, 1, 0)), nil},
	}
	for _, r := range rows {
		if got := Conflicts(r.l); !slices.Equal(got, r.want) {
			t.Errorf("%s: %v, not %v", r.name, got, r.want)
		}
	}
}

// TestChains: rows of attempts that came one behind the other.
func TestChains(t *testing.T) {
	one := func(attempt int) []api.Event { return of(attempt, api.Began, api.Aborted) }
	var most []api.Event
	for attempt := range api.MaxAttempts {
		most = append(most, of(api.MaxAttempts-1-attempt, api.Began, api.Tried, api.Committed)...)
	}
	rows := []struct {
		name string
		l    []api.Event
		want int
	}{
		{"nil", nil, 0},
		{"none", []api.Event{}, 0},
		{"live", of(0, api.Began), 1},
		{"three in a row", slices.Concat(one(2), one(0), one(1)), 3},
		{"the last one live", slices.Concat(one(2), one(0), of(1, api.Began)), 3},
		{"the first one live", slices.Concat(of(1, api.Began), one(2), one(0)), 2},
		{"all at once", slices.Concat(of(0, api.Began), of(1, api.Began), of(2, api.Began), of(0, api.Aborted), of(1, api.Aborted)), 1},
		{"pending is not ended", slices.Concat(of(0, api.Began, api.Tried), of(1, api.Began)), 1},
		{"two ways", slices.Concat(of(0, api.Began), one(1), one(2), of(0, api.Aborted), one(3)), 3},
		{"the longer way", slices.Concat(one(9), of(0, api.Began), one(1), one(2), one(3), of(0, api.Aborted), of(4, api.Began)), 5},
		{"most", most, api.MaxAttempts},
		{"not right", slices.Concat(one(0), one(1), of(2, api.Committed)), 0},
		{"begun twice", slices.Concat(one(0), one(1), one(0)), 0},
		{"no number", slices.Concat(one(0), one(64)), 0},
	}
	for _, r := range rows {
		if got := Chains(r.l); got != r.want {
			t.Errorf("%s: %d, not %d", r.name, got, r.want)
		}
	}
	for _, l := range wrong() {
		if n := Chains(l); n != 0 {
			t.Errorf("Chains(%v) is %d", l, n)
		}
	}
}

// TestDrawn: P25.1, P25.5: over many drawn events, right ones and others, all calls are as the chapter tells them.
func TestDrawn(t *testing.T) {
	draw := numbers(251)
	pairs, longest := 0, 0
	for i := range 8000 {
		l := drawnRight(draw, 1+draw(8))
		if i%2 == 0 {
			l = drawnAny(draw)
		}
		if got, want := CountsOf(l), modelCounts(l); got != want {
			t.Fatalf("CountsOf(%v) is %+v, not %+v", l, got, want)
		}
		tvar, ok := Busiest(l)
		if wantTvar, want := modelBusiest(l); tvar != wantTvar || ok != want {
			t.Fatalf("Busiest(%v) is %d, %v, not %d, %v", l, tvar, ok, wantTvar, want)
		}
		met := Conflicts(l)
		if want := modelConflicts(l); !slices.Equal(met, want) {
			t.Fatalf("Conflicts(%v) is %v, not %v", l, met, want)
		}
		chain := Chains(l)
		if want := modelChains(l); chain != want {
			t.Fatalf("Chains(%v) is %d, not %d", l, chain, want)
		}
		pairs, longest = pairs+len(met), max(longest, chain)
	}
	if pairs < 1000 || longest < 4 {
		t.Errorf("%d pairs met, the longest row is %d", pairs, longest)
	}
}

// plus are two counts together.
func plus(a, b api.Counts) api.Counts {
	return api.Counts{Attempts: a.Attempts + b.Attempts, Commits: a.Commits + b.Commits, Aborts: a.Aborts + b.Aborts, Open: a.Open + b.Open, Reads: a.Reads + b.Reads, Writes: a.Writes + b.Writes}
}

// shifted are events of attempts with numbers that are higher.
func shifted(l []api.Event, by int) []api.Event {
	l = slices.Clone(l)
	for i := range l {
		l[i].Attempt += by
	}
	return l
}

// TestMergeDrawn: P25.3, P25.4: over many drawn events Merge is right, its counts are both's together, and each one of a that has ended is Before each of b.
func TestMergeDrawn(t *testing.T) {
	draw := numbers(253)
	tally := map[api.Errno]int{}
	for range 4000 {
		a, b := drawnRight(draw, 1+draw(8)), drawnRight(draw, 1+draw(8))
		if draw(3) == 0 {
			a, b = shifted(a, draw(50)), shifted(b, draw(50))
		}
		by, most := 0, 0
		for _, e := range a {
			by = max(by, e.Attempt+1)
		}
		for _, e := range b {
			most = max(most, by+e.Attempt)
		}
		want := api.OK
		if most >= api.MaxAttempts {
			want = api.ErrSpace
		}
		l := merges(t, a, b, want)
		tally[want]++
		if want != api.OK {
			continue
		}
		if !slices.Equal(l, slices.Concat(a, shifted(b, by))) || !history.Right(l) || CountsOf(l) != plus(CountsOf(a), CountsOf(b)) {
			t.Fatalf("Merge(%v, %v) is %v", a, b, l)
		}
		for _, first := range slices.Concat(history.In(a, api.Success), history.In(a, api.Failure)) {
			for _, second := range history.Attempts(b) {
				if !history.Before(l, first, second+by) {
					t.Fatalf("in Merge(%v, %v) %d is not before %d", a, b, first, second+by)
				}
			}
		}
		if n := len(Conflicts(l)); len(history.In(a, api.Live))+len(history.In(a, api.Pending)) == 0 && n != len(Conflicts(a))+len(Conflicts(b)) {
			t.Fatalf("Merge(%v, %v) has %d conflicts", a, b, n)
		}
	}
	if tally[api.OK] < 1000 || tally[api.ErrSpace] < 100 {
		t.Error(tally)
	}
}

// TestOneAtATime: P25.6: attempts that came one at a time have no Conflicts, and are one row.
func TestOneAtATime(t *testing.T) {
	draw := numbers(256)
	for range 3000 {
		l := oneAtATime(draw)
		if met := Conflicts(l); len(met) != 0 || !history.Right(l) || Chains(l) != len(history.Attempts(l)) {
			t.Fatalf("Conflicts(%v) is %v, Chains %d", l, met, Chains(l))
		}
	}
}

// TestStays: P3: what is handed in stays as it is, spare room too, and what is answered lies in nothing else.
func TestStays(t *testing.T) {
	draw := numbers(3)
	for range 300 {
		l := drawnRight(draw, 3)
		room := append(slices.Clone(l), slices.Repeat([]api.Event{{Kind: 99, Attempt: 99}}, 5)...)
		was := slices.Clone(room)
		given := room[:len(l)]
		text, _ := Print(given)
		CountsOf(given)
		Busiest(given)
		Chains(given)
		for _, met := range [][][2]int{Conflicts(given), Conflicts(given)} {
			if !slices.Equal(met, modelConflicts(l)) {
				t.Fatalf("Conflicts(%v) is %v", l, met)
			}
			clear(met[:cap(met)])
		}
		for _, pair := range [][2][]api.Event{{given, nil}, {nil, given}, {given, given}} {
			merged, _ := Merge(pair[0], pair[1])
			clear(merged[:cap(merged)])
		}
		back, _ := Parse(text)
		clear(back[:cap(back)])
		if again, _ := Parse(text); !slices.Equal(room, was) || !slices.Equal(again, l) {
			t.Fatalf("what was handed in is %v, not %v; Parse is %v", room, was, again)
		}
	}
}

// TestMany: P1: calls of any events end soon, also of many.
func TestMany(t *testing.T) {
	var l []api.Event
	for attempt := range 2000 {
		l = append(l, append(of(attempt, api.Began), read(attempt, attempt%7, 0), wrote(attempt, attempt, 0))...)
	}
	met := Conflicts(l)
	if c := CountsOf(l); c.Attempts != 2000 || c.Writes != 2000 || Chains(l) != 0 || len(met) == 0 || met[0] != [2]int{0, 7} {
		t.Errorf("%+v, %d, %v", c, Chains(l), met[:min(len(met), 3)])
	}
	if _, e := Print(l); e != api.ErrForm {
		t.Error(e)
	}
}
