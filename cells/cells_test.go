package cells

import (
	"math"
	"slices"
	"testing"

	"rowlock/api"
)

const full = math.MaxUint64

func load(cell int) api.Op               { return api.Op{Kind: api.LoadOp, Cell: cell} }
func store(cell int, a uint64) api.Op    { return api.Op{Kind: api.StoreOp, Cell: cell, A: a} }
func cas(cell int, a, b uint64) api.Op   { return api.Op{Kind: api.CasOp, Cell: cell, A: a, B: b} }
func add(cell int, a uint64) api.Op      { return api.Op{Kind: api.AddOp, Cell: cell, A: a} }
func did(o api.Op, word uint64) api.Done { return api.Done{Op: o, Word: word, Ok: true} }

// played are n cells behind ops, each of which must be done.
func played(t *testing.T, n int, ops ...api.Op) *Cells {
	t.Helper()
	c := New(n)
	for _, o := range ops {
		if _, e := c.Do(o); e != api.OK {
			t.Fatalf("Do(%v): %d", o, e)
		}
	}
	return c
}

func TestNew(t *testing.T) {
	for _, n := range []int{math.MinInt, -1, 0, api.MaxCells + 1, math.MaxInt} {
		if New(n) != nil {
			t.Errorf("New(%d) is some", n)
		}
	}
	for _, n := range []int{1, 2, api.MaxCells} {
		c := New(n)
		if c == nil {
			t.Fatalf("New(%d) is nil", n)
		}
		if !slices.Equal(c.Words(), make([]uint64, n)) || len(c.Log()) != 0 || c.Steps() != 0 {
			t.Errorf("New(%d): %v, %v, %d", n, c.Words(), c.Log(), c.Steps())
		}
	}
}

// TestDo plays one op behind the other on two cells.
func TestDo(t *testing.T) {
	rows := []struct {
		op    api.Op
		word  uint64
		ok    bool
		words []uint64
	}{
		{add(0, 3), 0, true, []uint64{3, 0}},
		{add(0, 4), 3, true, []uint64{7, 0}},
		{load(0), 7, true, []uint64{7, 0}},
		{load(1), 0, true, []uint64{7, 0}},
		{store(1, 9), 0, true, []uint64{7, 9}},
		{store(1, 9), 9, true, []uint64{7, 9}},
		{cas(1, 8, 5), 9, false, []uint64{7, 9}},
		{cas(1, 5, 9), 9, false, []uint64{7, 9}},
		{cas(1, 9, 5), 9, true, []uint64{7, 5}},
		{cas(1, 5, 5), 5, true, []uint64{7, 5}},
		{cas(0, 7, 0), 7, true, []uint64{0, 5}},
		{add(1, 0), 5, true, []uint64{0, 5}},
		{add(1, full-5), 5, true, []uint64{0, full}},
		{add(1, 0), full, true, []uint64{0, full}},
		{store(1, 0), full, true, []uint64{0, 0}},
		{add(1, full), 0, true, []uint64{0, full}},
		{api.Op{Kind: api.LoadOp, Cell: 1, A: 6, B: 7}, full, true, []uint64{0, full}},
		{api.Op{Kind: api.StoreOp, Cell: 0, A: 6, B: 7}, 0, true, []uint64{6, full}},
		{api.Op{Kind: api.AddOp, Cell: 0, A: 6, B: 7}, 6, true, []uint64{12, full}},
	}
	c := New(2)
	var log []api.Done
	for i, r := range rows {
		want := api.Done{Op: r.op, Word: r.word, Ok: r.ok}
		log = append(log, want)
		if got, e := c.Do(r.op); got != want || e != api.OK {
			t.Errorf("%d: %v, %d, not %v", i, got, e, want)
		}
		if !slices.Equal(c.Words(), r.words) || !slices.Equal(c.Log(), log) || c.Steps() != i+1 {
			t.Errorf("%d: %v, %v, %d", i, c.Words(), c.Log(), c.Steps())
		}
		for cell, w := range r.words {
			if got, e := c.Word(cell); got != w || e != api.OK {
				t.Errorf("%d: Word(%d) is %d, %d", i, cell, got, e)
			}
		}
	}
}

// TestDoErrors: the first error that applies is answered, with nothing else, and nothing changes.
func TestDoErrors(t *testing.T) {
	rows := []struct {
		op   api.Op
		want api.Errno
	}{
		{load(-1), api.ErrRange}, {load(2), api.ErrRange}, {load(math.MinInt), api.ErrRange}, {load(math.MaxInt), api.ErrRange},
		{store(2, 1), api.ErrRange}, {cas(-1, 0, 1), api.ErrRange}, {add(2, full), api.ErrRange},
		{api.Op{}, api.ErrForm}, {api.Op{Kind: api.NoOp, Cell: 1, A: 1}, api.ErrForm},
		{api.Op{Kind: api.AddOp + 1, Cell: 1, A: full}, api.ErrForm}, {api.Op{Kind: 255}, api.ErrForm},
		{api.Op{Kind: api.NoOp, Cell: 2}, api.ErrRange}, {api.Op{Kind: 255, Cell: -1}, api.ErrRange},
		{add(1, full), api.ErrSpace}, {add(1, full-4), api.ErrSpace}, {add(0, 1), api.ErrSpace}, {add(0, full), api.ErrSpace},
	}
	c := played(t, 2, store(0, full), store(1, 5))
	words, log := c.Words(), c.Log()
	for _, r := range rows {
		if got, e := c.Do(r.op); got != (api.Done{}) || e != r.want {
			t.Errorf("Do(%v): %v, %d, not %d", r.op, got, e, r.want)
		}
		if !slices.Equal(c.Words(), words) || !slices.Equal(c.Log(), log) || c.Steps() != 2 {
			t.Fatalf("Do(%v) has changed something: %v, %v", r.op, c.Words(), c.Log())
		}
	}
}

func TestWord(t *testing.T) {
	c := played(t, 3, store(2, 4))
	for _, i := range []int{math.MinInt, -1, 3, math.MaxInt} {
		if w, e := c.Word(i); w != 0 || e != api.ErrRange {
			t.Errorf("Word(%d) is %d, %d", i, w, e)
		}
	}
	if w, e := c.Word(2); w != 4 || e != api.OK {
		t.Errorf("Word(2) is %d, %d", w, e)
	}
}

func TestNilCells(t *testing.T) {
	var c *Cells
	for _, o := range []api.Op{load(0), load(-1), {}, add(0, full), {Kind: 9, Cell: 99}} {
		if d, e := c.Do(o); d != (api.Done{}) || e != api.ErrNil {
			t.Errorf("Do(%v): %v, %d", o, d, e)
		}
	}
	for _, i := range []int{-1, 0, 99} {
		if w, e := c.Word(i); w != 0 || e != api.ErrNil {
			t.Errorf("Word(%d): %d, %d", i, w, e)
		}
	}
	if len(c.Words()) != 0 || len(c.Log()) != 0 || c.Steps() != 0 || c.Fork() != nil {
		t.Error("a nil object has something")
	}
}

// spoil writes over a list and over the room behind its end.
func spoil[T any](l []T, with T) {
	l = l[:cap(l)]
	for i := range l {
		l[i] = with
	}
}

// TestAnswersAreTheCallers: who writes over an answer changes nothing of what is kept, or was answered before (P3).
func TestAnswersAreTheCallers(t *testing.T) {
	c := played(t, 2, add(0, 1), add(1, 2), load(0))
	words, log := []uint64{1, 2}, []api.Done{did(add(0, 1), 0), did(add(1, 2), 0), did(load(0), 1)}
	firstWords, firstLog := c.Words(), c.Log()
	spoil(c.Words(), 99)
	spoil(c.Log(), api.Done{Word: 99})
	if !slices.Equal(c.Words(), words) || !slices.Equal(c.Log(), log) {
		t.Errorf("what is kept has changed: %v, %v", c.Words(), c.Log())
	}
	if !slices.Equal(firstWords, words) || !slices.Equal(firstLog, log) {
		t.Errorf("an earlier answer has changed: %v, %v", firstWords, firstLog)
	}
	if _, e := c.Do(store(0, 7)); e != api.OK || firstWords[0] != 1 || len(firstLog) != 3 || c.Log()[3] != did(store(0, 7), 1) {
		t.Error("Do reaches an earlier answer")
	}
}

// TestArgumentsStay: lists that are handed in stay as they are, spare room too (P3).
func TestArgumentsStay(t *testing.T) {
	room := []api.Done{did(add(0, 1), 0), did(store(0, 5), 1), did(load(0), 77), {Word: 88}}
	whole := slices.Clone(room)
	l := room[:2]
	Right(1, l)
	words, _ := Replay(1, l)
	spoil(words, 99)
	Last(l, 0)
	Right(1, room)
	Replay(1, room)
	if !slices.Equal(room, whole) {
		t.Errorf("what was handed in has changed: %v", room)
	}
}

// TestFork: what becomes of one of them changes nothing of the other one (P4).
func TestFork(t *testing.T) {
	c := played(t, 2, add(0, 1), add(0, 2), add(0, 3))
	f := c.Fork()
	if f == c || !slices.Equal(f.Words(), c.Words()) || !slices.Equal(f.Log(), c.Log()) || f.Steps() != 3 {
		t.Fatalf("Fork: %v, %v", f.Words(), f.Log())
	}
	f.Do(store(0, 50))
	c.Do(store(1, 60))
	c.Do(store(1, 61))
	if !slices.Equal(f.Words(), []uint64{50, 0}) || !slices.Equal(c.Words(), []uint64{6, 61}) {
		t.Errorf("words: %v, %v", f.Words(), c.Words())
	}
	if f.Steps() != 4 || f.Log()[3] != did(store(0, 50), 6) {
		t.Errorf("log of the Fork: %v", f.Log())
	}
	if c.Steps() != 5 || c.Log()[3] != did(store(1, 60), 0) {
		t.Errorf("log of the original: %v", c.Log())
	}
}

// TestApart: two objects share nothing, and do the same where they are asked the same (P6, E1).
func TestApart(t *testing.T) {
	ops := []api.Op{add(0, 1), cas(0, 1, 8), cas(0, 1, 9), store(1, 3), load(1)}
	a, other := played(t, 2, ops...), New(2)
	if other.Steps() != 0 || !slices.Equal(other.Words(), []uint64{0, 0}) {
		t.Error("a new object has another one's words")
	}
	b := played(t, 2, ops...)
	if !slices.Equal(a.Words(), b.Words()) || !slices.Equal(a.Log(), b.Log()) {
		t.Error("the same ops came to something else")
	}
}

func TestRightAndReplay(t *testing.T) {
	failed := api.Done{Op: cas(0, 2, 9), Word: 1}
	rows := []struct {
		name  string
		n     int
		log   []api.Done
		words []uint64
		want  api.Errno
	}{
		{"nothing, nil", 2, nil, []uint64{0, 0}, api.OK},
		{"nothing", 1, []api.Done{}, []uint64{0}, api.OK},
		{"some", 2, []api.Done{did(add(0, 1), 0), failed, did(cas(0, 1, 9), 1), did(store(1, 4), 0), did(load(0), 9)}, []uint64{9, 4}, api.OK},
		{"no such cells", 0, nil, nil, api.ErrRange},
		{"no such cells, below 0", -1, []api.Done{did(load(0), 0)}, nil, api.ErrRange},
		{"too many cells", api.MaxCells + 1, []api.Done{{}}, nil, api.ErrRange},
		{"another word", 1, []api.Done{did(add(0, 1), 1)}, nil, api.ErrForm},
		{"another word later", 1, []api.Done{did(add(0, 1), 0), did(load(0), 0)}, nil, api.ErrForm},
		{"not Ok", 1, []api.Done{{Op: add(0, 1)}}, nil, api.ErrForm},
		{"Ok that failed", 1, []api.Done{did(cas(0, 2, 3), 0)}, nil, api.ErrForm},
		{"failed that was Ok", 1, []api.Done{{Op: cas(0, 0, 3)}}, nil, api.ErrForm},
		{"no kind", 1, []api.Done{{}}, nil, api.ErrForm},
		{"kind behind all", 1, []api.Done{did(api.Op{Kind: 5}, 0)}, nil, api.ErrForm},
		{"no cell", 1, []api.Done{did(load(1), 0)}, nil, api.ErrForm},
		{"no cell, nothing told", 1, []api.Done{{Op: api.Op{Cell: -1}}}, nil, api.ErrForm},
		{"too great a sum", 1, []api.Done{did(store(0, full), 0), did(add(0, 1), full)}, nil, api.ErrForm},
		{"greatest sum", 1, []api.Done{did(store(0, full), 0), did(add(0, 0), full)}, []uint64{full}, api.OK},
	}
	for _, r := range rows {
		if got := Right(r.n, r.log); got != (r.want == api.OK) {
			t.Errorf("%s: Right is %v", r.name, got)
		}
		if words, e := Replay(r.n, r.log); !slices.Equal(words, r.words) || e != r.want {
			t.Errorf("%s: Replay is %v, %d", r.name, words, e)
		}
	}
}

func TestLast(t *testing.T) {
	log := []api.Done{
		did(add(1, 3), 0),
		{Op: cas(1, 2, 9), Word: 3},
		did(cas(1, 3, 9), 3),
		{Op: cas(1, 2, 9), Word: 9},
		did(load(1), 9),
		did(store(0, 4), 0),
		did(load(2), 0),
		{Op: cas(3, 1, 2)},
		did(add(4, 0), 0),
		did(api.Op{Kind: api.NoOp, Cell: 5}, 0), // it is no LoadOp, whatever else it is
		did(api.Op{Kind: api.StoreOp, Cell: -1}, 0),
	}
	rows := []struct {
		cell, at int
		ok       bool
	}{
		{0, 5, true}, {1, 2, true}, {2, 0, false}, {3, 0, false}, {4, 8, true}, {5, 9, true}, {-1, 10, true},
		{6, 0, false}, {math.MinInt, 0, false}, {math.MaxInt, 0, false},
	}
	for _, r := range rows {
		if at, ok := Last(log, r.cell); at != r.at || ok != r.ok {
			t.Errorf("Last of cell %d is %d, %v", r.cell, at, ok)
		}
	}
	if at, ok := Last(log[:1], 1); at != 0 || !ok {
		t.Errorf("Last of one is %d, %v", at, ok)
	}
	if at, ok := Last(nil, 0); at != 0 || ok {
		t.Errorf("Last of nothing is %d, %v", at, ok)
	}
}

// TestOneOfTwoCas: of two CasOps with one A, and another B, just one is Ok, whichever comes first (P2.3).
func TestOneOfTwoCas(t *testing.T) {
	for _, ops := range [][]api.Op{{cas(0, 4, 5), cas(0, 4, 6)}, {cas(0, 4, 6), cas(0, 4, 5)}, {cas(0, 4, 5), cas(0, 4, 5)}} {
		c := played(t, 1, store(0, 4))
		first, _ := c.Do(ops[0])
		second, _ := c.Do(ops[1])
		if !first.Ok || second.Ok || second.Word != ops[0].B || c.Words()[0] != ops[0].B {
			t.Errorf("%v: %v, %v", ops, first, second)
		}
	}
}

// TestLogsAreRight plays many ops, wrong ones among them: each Log is Right, and Replay of it are the Words (P2.4).
func TestLogsAreRight(t *testing.T) {
	x := uint64(7)
	below := func(n uint64) uint64 {
		x = x*6364136223846793005 + 1442695040888963407
		return (x >> 33) % n
	}
	for _, n := range []int{1, 3, api.MaxCells} {
		c := New(n)
		for range 400 {
			o := api.Op{Kind: api.OpKind(below(6)), Cell: int(below(uint64(n)+2)) - 1, A: below(4), B: below(4)}
			if below(9) == 0 {
				o.A = full - o.A
			}
			c.Do(o)
			words, e := Replay(n, c.Log())
			if !Right(n, c.Log()) || e != api.OK || !slices.Equal(words, c.Words()) || c.Steps() != len(c.Log()) {
				t.Fatalf("behind %v: %v, %d, not %v", o, words, e, c.Words())
			}
		}
		if c.Steps() < 50 {
			t.Errorf("only %d ops were done", c.Steps())
		}
	}
}
