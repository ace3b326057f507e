package spec

import (
	"slices"
	"testing"

	"rowlock/api"
	"rowlock/code"
)

// notDone are the operations that Step does not do.
var notDone = []api.OpCode{api.Get, api.Put, api.GetAt, api.PutAt, api.Atomic, api.End, api.OrElse, api.Else, api.EndOr, api.Retry, api.Halt}

// refuses holds Step against an error.
func refuses(t *testing.T, l []api.Ins, s api.State, want api.Errno) {
	t.Helper()
	if got, errno := Step(l, s); errno != want || !sameState(got, api.State{}) {
		t.Errorf("Step(%v, %+v) is %+v, %d, not %d", l, s, got, errno, want)
	}
}

// goesTo holds Step against the State behind it.
func goesTo(t *testing.T, l []api.Ins, s, want api.State) {
	t.Helper()
	if got, errno := Step(l, s); errno != api.OK || !sameState(got, want) {
		t.Errorf("Step(%v, %+v) is %+v, %d, not %+v", l, s, got, errno, want)
	}
}

// TestStepStacks: what each operation makes of the stack, and that all else stays.
func TestStepStacks(t *testing.T) {
	rows := []struct{ text, from, to string }{
		{"nop", "", ""}, {"nop", "5 6", "5 6"},
		{"push 7", "", "7"}, {"push -0", "5", "5 -0"}, {"push nan", "5", "5 nan"},
		{"local 0", "", "10"}, {"local 3", "5", "5 13"},
		{"add", "5 6", "11"}, {"add", "1 inf -inf", "1 nan"}, {"add", "-0 -0", "-0"}, {"add", "0.1 0.2", "0.30000000000000004"},
		{"sub", "5 6", "-1"}, {"sub", "9 6 5", "9 1"}, {"sub", "6 6", "0"},
		{"mul", "5 6", "30"}, {"mul", "0 -1", "-0"}, {"mul", "0 inf", "nan"},
		{"div", "5 2", "2.5"}, {"div", "2 5", "0.4"}, {"div", "1 -0", "-inf"}, {"div", "0 0", "nan"},
		{"neg", "5", "-5"}, {"neg", "0", "-0"}, {"neg", "1 -inf", "1 inf"}, {"neg", "nan", "nan"},
		{"less", "5 6", "1"}, {"less", "6 5", "0"}, {"less", "5 5", "0"}, {"less", "-0 0", "1"}, {"less", "0 -0", "0"}, {"less", "inf nan", "1"}, {"less", "nan nan", "0"},
		{"same", "5 5", "1"}, {"same", "5 6", "0"}, {"same", "0 -0", "0"}, {"same", "nan nan", "1"}, {"same", "3 5 5", "3 1"},
		{"not", "0", "1"}, {"not", "-0", "1"}, {"not", "nan", "1"}, {"not", "5", "0"}, {"not", "-inf", "0"}, {"not", "7 0.5", "7 0"},
		{"dup", "5 6", "5 6 6"}, {"dup", "-0", "-0 -0"},
		{"pop", "5 6", "5"}, {"pop", "5", ""},
		{"swap", "4 5 6", "4 6 5"}, {"swap", "5 6", "6 5"},
	}
	for _, r := range rows {
		l := of("halt, " + r.text + ", halt")
		s := api.State{Pc: 1, Stack: vals(r.from), Locals: [4]api.Val(vals("10 11 12 13")), Out: vals("8 9")}
		want := s
		want.Pc, want.Stack = 2, vals(r.to)
		goesTo(t, l, s, want)
	}
}

// TestStepOthers: what changes the locals, what is put out, and Pc alone.
func TestStepOthers(t *testing.T) {
	s := api.State{Stack: vals("5 6"), Locals: [4]api.Val(vals("10 11 12 13")), Out: vals("8")}
	for arg := range api.MaxLocals {
		want := s
		want.Pc, want.Stack = 1, vals("5")
		want.Locals[arg] = vals("6")[0]
		goesTo(t, []api.Ins{{Op: api.SetLocal, Arg: arg}}, s, want)
	}
	want := s
	want.Pc, want.Stack, want.Out = 1, vals("5"), vals("8 6")
	goesTo(t, of("out"), s, want)
	// The last instruction may be done: who goes on behind it is wrong.
	goesTo(t, of("nop"), api.State{}, api.State{Pc: 1})
	refuses(t, of("nop"), api.State{Pc: 1}, api.ErrForm)
}

func TestStepPlaces(t *testing.T) {
	for _, l := range [][]api.Ins{nil, {}, of("nop"), of("nop, nop, nop"), of(times(100, "nop"))} {
		for _, at := range places(l) {
			if at < 0 || at >= len(l) {
				refuses(t, l, api.State{Pc: at}, api.ErrForm)
			}
		}
		for at := range l {
			goesTo(t, l, api.State{Pc: at}, api.State{Pc: at + 1})
		}
	}
}

// TestStepNotDone: what Step does not do is ErrForm, whatever stands on the stack.
func TestStepNotDone(t *testing.T) {
	for o := range api.LastOp + 1 {
		for _, n := range []int{0, 1, 2, 5, api.MaxStack, api.MaxStack + 3} {
			_, errno := Step([]api.Ins{{Op: o}, {}}, api.State{Stack: ones(n)})
			if not := slices.Contains(notDone, o); not != (errno == api.ErrForm) {
				t.Errorf("Step of %d is %d", o, errno)
			}
			if slices.Contains(notDone, o) {
				refuses(t, []api.Ins{{Op: o}}, api.State{Stack: ones(n)}, api.ErrForm)
			}
		}
	}
}

func TestStepNotRight(t *testing.T) {
	for _, w := range wrongs() {
		for _, n := range []int{0, 4, api.MaxStack + 9} {
			refuses(t, []api.Ins{{}, w, {}}, api.State{Pc: 1, Stack: ones(n)}, api.ErrForm)
		}
		// What is wrong elsewhere is of no matter.
		goesTo(t, []api.Ins{w, {}, w}, api.State{Pc: 1}, api.State{Pc: 2})
	}
}

// TestStepHeights: each operation over stacks of all heights.
func TestStepHeights(t *testing.T) {
	for o := range api.LastOp + 1 {
		if slices.Contains(notDone, o) {
			continue
		}
		pops, pushes := code.Effect(o)
		for n := range api.MaxStack + 4 {
			s := api.State{Stack: ones(n)}
			l := []api.Ins{{Op: o}}
			if n < pops || n-pops+pushes > api.MaxStack {
				refuses(t, l, s, api.ErrStack)
				continue
			}
			got, errno := Step(l, s)
			if errno != api.OK || len(got.Stack) != n-pops+pushes || !slices.Equal(got.Stack[:n-pops], s.Stack[:n-pops]) {
				t.Errorf("Step of %d over %d values is %+v, %d", o, n, got, errno)
			}
		}
	}
}

func TestStepOut(t *testing.T) {
	for _, n := range []int{0, 1, api.MaxOut - 1} {
		goesTo(t, of("out"), api.State{Stack: vals("7"), Out: ones(n)}, api.State{Pc: 1, Out: append(ones(n), vals("7")...)})
	}
	for _, n := range []int{api.MaxOut, api.MaxOut + 1, 1000} {
		refuses(t, of("out"), api.State{Stack: vals("7"), Out: ones(n)}, api.ErrSpace)
		refuses(t, of("out"), api.State{Out: ones(n)}, api.ErrStack)
		refuses(t, of("out"), api.State{Stack: ones(14), Out: ones(n)}, api.ErrStack)
		goesTo(t, of("push 3"), api.State{Out: ones(n)}, api.State{Pc: 1, Stack: vals("3"), Out: ones(n)})
	}
}

func TestStepJumps(t *testing.T) {
	for n := range 66 {
		l := of("nop, nop, nop, " + times(n, "nop"))
		for arg := range 64 {
			s := api.State{Pc: 1, Stack: vals("5 0")}
			jumped := api.State{Pc: arg, Stack: vals("5")}
			l[1] = api.Ins{Op: api.IfZero, Arg: arg}
			if arg > len(l) {
				refuses(t, l, s, api.ErrRange)
			} else {
				goesTo(t, l, s, jumped)
			}
			goesTo(t, l, api.State{Pc: 1, Stack: vals("5 -3")}, api.State{Pc: 2, Stack: vals("5")})
			refuses(t, l, api.State{Pc: 1}, api.ErrStack)
			l[1].Op = api.Jump
			if arg > len(l) {
				refuses(t, l, s, api.ErrRange)
				refuses(t, l, api.State{Pc: 1, Stack: ones(13)}, api.ErrStack)
			} else {
				goesTo(t, l, s, api.State{Pc: arg, Stack: vals("5 0")})
			}
		}
	}
}

// TestStepZero: which values are zero for IfZero.
func TestStepZero(t *testing.T) {
	for _, v := range vals("0 -0 nan") {
		goesTo(t, of("nop, zero 0"), api.State{Pc: 1, Stack: []api.Val{v}}, api.State{})
	}
	for _, v := range vals("1 -1 inf -inf 0.5 5e-324 -5e-324") {
		goesTo(t, of("nop, zero 0"), api.State{Pc: 1, Stack: []api.Val{v}}, api.State{Pc: 2})
	}
}

// TestStepOddBits: bits that are not right are NaN where they are reckoned with, and stay where they are only moved.
func TestStepOddBits(t *testing.T) {
	const odd = api.NaN + 5
	s := api.State{Stack: []api.Val{api.One, odd}}
	for text, want := range map[string][]api.Val{
		"add": {api.NaN}, "neg": {api.One, api.NaN}, "not": {api.One, api.One}, "less": {api.One}, "same": {0},
		"nop": {api.One, odd}, "dup": {api.One, odd, odd}, "swap": {odd, api.One},
	} {
		goesTo(t, of(text), s, api.State{Pc: 1, Stack: want})
	}
	goesTo(t, of("same"), api.State{Stack: []api.Val{api.NaN, odd}}, api.State{Pc: 1, Stack: vals("1")})
}
