package spec

import (
	"math"
	"slices"
	"strconv"
	"testing"

	"rowlock/api"
)

// finished holds a block from the zero State on against the stack, the heap and the arms that it comes to; it ends behind the first End.
func finished(t *testing.T, text, from, stack, heap string, arms ...bool) {
	t.Helper()
	l := of(text)
	end := slices.IndexFunc(l, func(i api.Ins) bool { return i.Op == api.End })
	want := api.Outcome{Kind: api.Finished, State: api.State{Pc: end + 1, Stack: vals(stack)}, Heap: vals(heap), Arms: arms}
	is(t, Block(l, api.State{}, vals(from), enough), want)
}

// gets holds a block from a stack on against an error: all is as it was.
func gets(t *testing.T, text, stack, heap string, errno api.Errno) {
	t.Helper()
	s := api.State{Stack: vals(stack), Locals: [4]api.Val(vals("1 2 3 4")), Out: vals("9")}
	is(t, Block(of(text), s, vals(heap), enough), stuckAt(s, vals(heap), errno))
}

func TestBlockExample(t *testing.T) {
	is(t, Block(of("atomic 5, orelse 3, retry, else 4, endor, end"), api.State{}, nil, enough), api.Outcome{Kind: api.Finished, State: api.State{Pc: 6}, Arms: []bool{false}})
}

// TestBlockWhere: there must be an Atomic at Pc, right or not.
func TestBlockWhere(t *testing.T) {
	l := of("nop, atomic 2, end, halt")
	for _, at := range append(places(l), 0, 2, 3) {
		s := api.State{Pc: at, Stack: ones(2)}
		is(t, Block(l, s, vals("5 6"), enough), stuckAt(s, vals("5 6"), api.ErrForm))
		is(t, Block(l, s, vals("5 6"), 0), stuckAt(s, vals("5 6"), api.ErrForm))
	}
	is(t, Block(l, api.State{Pc: 1, Stack: ones(2)}, vals("5 6"), enough), api.Outcome{Kind: api.Finished, State: api.State{Pc: 3, Stack: ones(2)}, Heap: vals("5 6")})
	is(t, Block(nil, api.State{}, nil, enough), stuckAt(api.State{}, nil, api.ErrForm))
	for _, i := range []api.Ins{{Op: api.Atomic}, {Op: api.Atomic, Arg: -1}, {Op: api.Atomic, Arg: 64, Val: 1}} {
		is(t, Block([]api.Ins{i, {Op: api.End}}, api.State{}, nil, enough), api.Outcome{Kind: api.Finished, State: api.State{Pc: 2}})
	}
	is(t, Block(of("atomic 1"), api.State{}, nil, enough), stuckAt(api.State{}, nil, api.ErrForm))
}

// TestBlockState: a block goes on with the State that it is given, and leaves what is put out as it is.
func TestBlockState(t *testing.T) {
	s := api.State{Stack: vals("4 5"), Locals: [4]api.Val(vals("1 2 3 4")), Out: ones(30)}
	want := api.State{Pc: 6, Stack: vals("9"), Locals: [4]api.Val(vals("1 9 3 4")), Out: ones(30)}
	is(t, Block(of("atomic 5, add, dup, set 1, nop, end"), s, vals("7"), enough), api.Outcome{Kind: api.Finished, State: want, Heap: vals("7")})
}

func TestBlockVariables(t *testing.T) {
	finished(t, "atomic 2, get 0, end", "5 6", "5", "5 6")
	finished(t, "atomic 3, get 1, get 0, end", "5 -0", "-0 5", "5 -0")
	finished(t, "atomic 3, push 7, put 1, end", "5 6", "", "5 7")
	finished(t, "atomic 4, push 7, put 1, get 1, end", "5 6", "7", "5 7")
	finished(t, "atomic 5, get 0, push 1, add, put 0, end", "5 6", "", "6 6")
	finished(t, "atomic 3, push 1, getat 0, end", "5 6 7", "6", "5 6 7")
	finished(t, "atomic 3, push 1, getat 1, end", "5 6 7", "7", "5 6 7")
	finished(t, "atomic 3, push -0, getat 2, end", "5 6 7", "7", "5 6 7")
	// The number is the uppermost value, what is written the one below.
	finished(t, "atomic 4, push 8, push 2, putat 0, end", "5 6 7", "", "5 6 8")
	finished(t, "atomic 5, push 9, push 0, push 1, putat 1, end", "5 6 7", "9", "5 6 0")
	full := times(11, "push 2")
	finished(t, "atomic 13, "+full+"get 1, end", "5 6", "2 2 2 2 2 2 2 2 2 2 2 6", "5 6")
	finished(t, "atomic 14, "+full+"push 0, getat 1, end", "5 6", "2 2 2 2 2 2 2 2 2 2 2 6", "5 6")
	last := "0 1 2 3 4 5 6 7 8 9 10 11"
	for n := range api.MaxTvars {
		for index := range api.MaxTvars - n {
			text, sum := "atomic 3, push "+strconv.Itoa(index)+", getat "+strconv.Itoa(n)+", end", strconv.Itoa(n+index)
			finished(t, text, last, sum, last)
		}
	}
}

// TestBlockNoVariable: variables that are not in the heap, by their Arg or by an index.
func TestBlockNoVariable(t *testing.T) {
	for _, heap := range []string{"", "5", "5 6"} {
		n := strconv.Itoa(len(vals(heap)))
		for _, arg := range []string{n, "11"} {
			gets(t, "atomic 2, get "+arg+", end", "", heap, api.ErrRange)
			gets(t, "atomic 2, put "+arg+", end", "3", heap, api.ErrRange)
			gets(t, "atomic 2, getat "+arg+", end", "0", heap, api.ErrRange)
			gets(t, "atomic 2, putat "+arg+", end", "3 0", heap, api.ErrRange)
			// What is missing on the stack comes first.
			gets(t, "atomic 2, put "+arg+", end", "", heap, api.ErrStack)
			gets(t, "atomic 2, getat "+arg+", end", "", heap, api.ErrStack)
			gets(t, "atomic 2, putat "+arg+", end", "0", heap, api.ErrStack)
			gets(t, "atomic 2, get "+arg+", end", "1 2 3 4 5 6 7 8 9 10 11 12", heap, api.ErrStack)
		}
	}
	for _, index := range []string{"-1", "-2", "2", "12", "0.5", "1.5", "-0.5", "nan", "inf", "-inf", "9007199254740992", "9007199254740994", "1e300", "5e-324"} {
		gets(t, "atomic 2, getat 1, end", "3 "+index, "5 6 7", api.ErrRange)
		gets(t, "atomic 2, putat 1, end", "3 "+index, "5 6 7", api.ErrRange)
	}
	gets(t, "atomic 2, getat 2, end", "-1", "5 6 7", api.ErrRange)
	gets(t, "atomic 2, putat 2, end", "3 -2", "5 6 7", api.ErrRange)
	// The value that is written is no index.
	is(t, Block(of("atomic 1, putat 0, end"), api.State{Stack: vals("nan 1")}, vals("5 6"), enough), api.Outcome{Kind: api.Finished, State: api.State{Pc: 3}, Heap: vals("5 nan")})
}

// TestBlockHeights: each operation of a block over stacks of all heights.
func TestBlockHeights(t *testing.T) {
	rows := []struct {
		text         string
		pops, pushes int
	}{
		{"get 0", 0, 1}, {"put 0", 1, 0}, {"getat 0", 1, 1}, {"putat 0", 2, 0}, {"push 1", 0, 1}, {"add", 2, 1}, {"dup", 1, 2}, {"zero 2", 1, 0}, {"swap", 2, 2},
		{"nop", 0, 0}, {"orelse 3", 0, 0}, {"endor", 0, 0},
	}
	zeros := make([]api.Val, 20)
	for _, r := range rows {
		for n := range api.MaxStack + 4 {
			s := api.State{Stack: zeros[:n]}
			o := Block(of("atomic 2, "+r.text+", end"), s, vals("0"), enough)
			if n < r.pops || n-r.pops+r.pushes > api.MaxStack {
				is(t, o, stuckAt(s, vals("0"), api.ErrStack))
			} else if o.Kind != api.Finished || len(o.State.Stack) != n-r.pops+r.pushes {
				t.Errorf("%s over %d values is %+v", r.text, n, o)
			}
		}
	}
	is(t, Block(of("atomic 1, end"), api.State{Stack: ones(12)}, nil, enough), api.Outcome{Kind: api.Finished, State: api.State{Pc: 2, Stack: ones(12)}})
	for _, text := range []string{"end", "retry", "else 1"} {
		is(t, Block(of("atomic 1, "+text), api.State{Stack: ones(13)}, nil, enough), stuckAt(api.State{Stack: ones(13)}, nil, api.ErrStack))
	}
}

// TestBlockArms: left arms that end, and that retry, within one another.
func TestBlockArms(t *testing.T) {
	finished(t, "atomic 7, orelse 4, push 3, put 0, else 6, nop, endor, end", "5 6", "", "3 6", true)
	finished(t, "atomic 8, orelse 5, push 3, put 0, retry, else 7, nop, endor, end", "5 6", "", "5 6", false)
	finished(t, "atomic 10, push 9, orelse 6, pop, push 8, retry, else 9, push 3, put 1, endor, end", "5 6", "9", "5 3", false)
}

// TestBlockLocals: what a left arm did to the locals is taken back, what a right one did stays.
func TestBlockLocals(t *testing.T) {
	o := Block(of("atomic 10, orelse 5, push 3, set 0, retry, else 9, push 4, set 1, nop, endor, end"), api.State{Locals: [4]api.Val(vals("7 7 7 7"))}, nil, enough)
	is(t, o, api.Outcome{Kind: api.Finished, State: api.State{Pc: 11, Locals: [4]api.Val(vals("7 4 7 7"))}, Arms: []bool{false}})
}

// TestBlockArmsWithin: an arm within a left one, within a right one, and several behind one another; each arm that came to an end is told, in order, also those within a left one that was retried then.
func TestBlockArmsWithin(t *testing.T) {
	// The inner left arm ends, the outer one ends.
	finished(t, "atomic 8, orelse 6, orelse 4, nop, else 5, endor, else 7, endor, end", "", "", "", true, true)
	// The inner left arm retries, its right one ends, the outer one ends.
	finished(t, "atomic 8, orelse 6, orelse 4, retry, else 5, endor, else 7, endor, end", "", "", "", false, true)
	// The inner left arm retries, its right one too: that is the outer left one's.
	finished(t, "atomic 13, orelse 10, push 3, put 0, orelse 7, push 4, retry, else 9, retry, endor, else 12, get 0, endor, end", "5", "5", "5", false)
	// The inner left arm ends, then the outer one retries.
	finished(t, "atomic 11, orelse 8, orelse 5, push 4, put 0, else 6, endor, retry, else 10, get 0, endor, end", "5", "5", "5", true, false)
	// Within a right one.
	finished(t, "atomic 9, orelse 3, retry, else 8, orelse 5, else 7, retry, endor, endor, end", "", "", "", true, false)
	finished(t, "atomic 10, orelse 3, retry, else 9, orelse 6, retry, else 7, endor, nop, endor, end", "", "", "", false, false)
	// One behind the other: what the first one wrote stays, when the second one is retried.
	finished(t, "atomic 13, orelse 4, push 4, put 0, else 5, endor, orelse 10, push 3, put 0, retry, else 12, get 0, endor, end", "5", "4", "4", true, false)
}

// TestBlockDeep: left arms within one another, each retried or ended; there is no limit to them here.
func TestBlockDeep(t *testing.T) {
	for _, n := range []int{1, 2, api.MaxDepth, api.MaxDepth + 1, 9} {
		// Places: n OrElses, a write each ahead of them; the innermost one retries; each right arm but the outermost one's retries.
		var l []api.Ins
		l = append(l, of("atomic 0")...)
		for at := range n {
			l = append(l, of("push "+strconv.Itoa(at+10)+", put 0, orelse 0")...)
		}
		l = append(l, of("nop, retry")...)
		inner := len(l)
		for range n {
			l = append(l, of("else 0, retry, endor")...)
		}
		l[len(l)-2] = api.Ins{Op: api.Nop}
		l = append(l, of("get 0, end")...)
		for at := range n {
			l[3+3*at].Arg = inner + 3*(n-1-at)
			l[inner+3*at].Arg = inner + 3*at + 2
		}
		o := Block(l, api.State{}, vals("5"), enough)
		is(t, o, api.Outcome{Kind: api.Finished, State: api.State{Pc: len(l), Stack: vals("10")}, Heap: vals("10"), Arms: []bool{false}})
	}
}

func TestBlockRetried(t *testing.T) {
	s := api.State{Stack: vals("4 5"), Locals: [4]api.Val(vals("1 2 3 4")), Out: vals("9")}
	for _, text := range []string{
		"atomic 2, retry, end", "atomic 6, push 3, put 0, pop, set 1, retry, end", "atomic 6, orelse 3, retry, else 5, retry, endor, end",
		"atomic 7, orelse 4, push 3, put 0, else 5, endor, retry, end", "atomic 7, orelse 4, push 3, retry, else 5, endor, retry, end",
		"atomic 10, orelse 7, push 4, orelse 5, retry, else 6, endor, else 9, retry, endor, retry, end",
	} {
		is(t, Block(of(text), s, vals("7 8"), enough), api.Outcome{Kind: api.Retried, State: s, Heap: vals("7 8")})
	}
}

// TestBlockLeftOpen: an End ends the block, and a Retry goes back, also where a left arm is open that should not be; which Else comes is of no matter.
func TestBlockLeftOpen(t *testing.T) {
	finished(t, "atomic 3, orelse 9, get 0, end", "5", "5", "5")
	finished(t, "atomic 4, orelse 2, nop, else 3, end", "5", "", "5", true)
	finished(t, "atomic 3, endor, endor, end", "5", "", "5", false, false)
	// An OrElse that goes back to itself begins an arm each time; the last one retries to behind its Arg.
	is(t, Block(of("atomic 9, orelse 4, jump 1, nop, nop, end"), api.State{}, nil, enough), stuckAt(api.State{}, nil, api.ErrFuel))
	finished(t, "atomic 6, orelse 4, orelse 3, retry, retry, nop, end", "5", "", "5")
	is(t, Block(of("atomic 9, orelse 9, retry, end"), api.State{}, nil, enough), stuckAt(api.State{}, nil, api.ErrForm))
	is(t, Block(of("atomic 9, orelse 3, else 9, end"), api.State{}, nil, enough), stuckAt(api.State{}, nil, api.ErrForm))
	is(t, Block(of("atomic 9, orelse 63, else 63, end"), api.State{}, nil, enough), stuckAt(api.State{}, nil, api.ErrForm))
}

// TestBlockWrong: what may not be in a block, or may not be at all; nothing of the block is left.
func TestBlockWrong(t *testing.T) {
	ahead := "push 3, put 0, "
	for _, text := range []string{"out", "halt", "atomic 5", "atomic 4", "else 5", "nop", "jump 5", "jump 0"} {
		gets(t, "atomic 4, "+ahead+"push 1, "+text, "6", "5", api.ErrForm)
	}
	gets(t, "atomic 6, orelse 2, else 3, endor, else 5, endor, end", "", "5", api.ErrForm)
	gets(t, "atomic 6, orelse 3, retry, else 5, else 5, endor, end", "", "5", api.ErrForm)
	gets(t, "atomic 4, "+ahead+"jump 9, end", "", "5", api.ErrRange)
	gets(t, "atomic 4, "+ahead+"add, end", "6", "5", api.ErrStack)
	for _, w := range wrongs() {
		l := append(of("atomic 4, "+ahead), w, api.Ins{Op: api.End})
		s := api.State{Stack: ones(3)}
		is(t, Block(l, s, vals("5"), enough), stuckAt(s, vals("5"), api.ErrForm))
		l[3] = api.Ins{}
		l[4] = w
		l = append(l, api.Ins{Op: api.End})
		is(t, Block(l, s, vals("5"), enough), stuckAt(s, vals("5"), api.ErrForm))
	}
	// What may not be comes ahead of what is not on the stack.
	gets(t, "atomic 2, out, end", "", "", api.ErrForm)
	gets(t, "atomic 2, out, end", "1 2 3 4 5 6 7 8 9 10 11 12 13 14", "", api.ErrForm)
	// Behind what was wrong nothing counts.
	is(t, Block(append(of("atomic 1, end"), wrongs()...), api.State{}, nil, enough), api.Outcome{Kind: api.Finished, State: api.State{Pc: 2}})
}

func TestBlockFuel(t *testing.T) {
	s := api.State{Stack: ones(2)}
	// Just enough, one too little: the End takes one, the Atomic none.
	for text, n := range map[string]int{
		"atomic 1, end": 1, "atomic 2, nop, end": 2, "atomic 4, push 3, put 0, get 0, end": 4, "atomic 7, orelse 4, nop, nop, else 6, retry, endor, end": 5,
		"atomic 8, orelse 4, nop, retry, else 6, nop, endor, nop, end": 7, "atomic 3, jump 3, nop, end": 2,
	} {
		l := of(text)
		for _, fuel := range []int{n, n + 1, enough, enough + 1, math.MaxInt} {
			if o := Block(l, s, vals("5"), fuel); o.Kind != api.Finished {
				t.Errorf("%s with %d is %+v", text, fuel, o)
			}
		}
		for fuel := -1; fuel < n; fuel++ {
			is(t, Block(l, s, vals("5"), fuel), stuckAt(s, vals("5"), api.ErrFuel))
		}
		is(t, Block(l, s, vals("5"), math.MinInt), stuckAt(s, vals("5"), api.ErrFuel))
	}
	for fuel := range 3 {
		kind := api.Outcome{Kind: api.Retried, State: s, Heap: vals("5")}
		if fuel < 2 {
			kind = stuckAt(s, vals("5"), api.ErrFuel)
		}
		is(t, Block(of("atomic 3, nop, retry, end"), s, vals("5"), fuel), kind)
	}
}

// TestBlockMaxFuel: no more than MaxFuel are done, whatever fuel there is.
func TestBlockMaxFuel(t *testing.T) {
	for _, fuel := range []int{enough, enough + 1, math.MaxInt} {
		most := of("atomic 1, " + times(api.MaxFuel-1, "nop") + "end")
		is(t, Block(most, api.State{}, nil, fuel), api.Outcome{Kind: api.Finished, State: api.State{Pc: len(most)}})
		is(t, Block(of("atomic 1, "+times(api.MaxFuel, "nop")+"end"), api.State{}, nil, fuel), stuckAt(api.State{}, nil, api.ErrFuel))
	}
	is(t, Block(of("atomic 1, "+times(api.MaxFuel-1, "nop")+"end"), api.State{}, nil, enough-1), stuckAt(api.State{}, nil, api.ErrFuel))
}

// TestBlockOrderOfErrors: a place that is none, or wrong, comes ahead of fuel, and fuel ahead of what may not be in a block, and of its stack.
func TestBlockOrderOfErrors(t *testing.T) {
	s := api.State{}
	is(t, Block(of("atomic 9, nop"), s, nil, 1), stuckAt(s, nil, api.ErrForm))
	is(t, Block(of("atomic 9"), s, nil, 0), stuckAt(s, nil, api.ErrForm))
	is(t, Block(append(of("atomic 9"), wrongs()[0]), s, nil, 0), stuckAt(s, nil, api.ErrForm))
	for _, text := range []string{"out", "halt", "atomic 1", "add", "get 0", "else 1", "jump 9", "retry", "end"} {
		is(t, Block(of("atomic 9, "+text), s, nil, 0), stuckAt(s, nil, api.ErrFuel))
		is(t, Block(of("atomic 9, nop, "+text), s, nil, 1), stuckAt(s, nil, api.ErrFuel))
	}
}
