package spec

import (
	"math"
	"slices"
	"strconv"
	"strings"
	"testing"

	"rowlock/api"
	"rowlock/code"
	"rowlock/value"
)

// of is the instructions that a text names, with commas between; Args may be any; push has a number, or none, which is 1.
func of(text string) []api.Ins {
	var l []api.Ins
	for part := range strings.SplitSeq(text, ",") {
		words := strings.Fields(part)
		if len(words) == 0 {
			continue
		}
		op, ok := code.ReadWord(words[0])
		if !ok {
			panic("no operation: " + part)
		}
		i := api.Ins{Op: op}
		switch {
		case op == api.Push && len(words) == 1:
			i.Val = api.One
		case op == api.Push:
			i.Val = vals(words[1])[0]
		case len(words) > 1:
			n, err := strconv.Atoi(words[1])
			if err != nil {
				panic("no Arg: " + part)
			}
			i.Arg = n
		}
		l = append(l, i)
	}
	return l
}

// vals are the values that a text names, with blanks between.
func vals(text string) []api.Val {
	var l []api.Val
	for word := range strings.FieldsSeq(text) {
		f, err := strconv.ParseFloat(word, 64)
		if err != nil {
			panic("no number: " + word)
		}
		l = append(l, value.Of(f))
	}
	return l
}

// ones are so many values, all unlike one another.
func ones(n int) []api.Val {
	var l []api.Val
	for at := range n {
		l = append(l, value.Of(float64(at+1)))
	}
	return l
}

// times is a text some times over, with commas behind.
func times(n int, text string) string { return strings.Repeat(text+", ", n) }

// places are numbers that are places of no list.
func places(l []api.Ins) []int {
	return []int{math.MinInt, -len(l), -1, len(l), len(l) + 1, len(l) + 256, math.MaxInt}
}

// wrongs are instructions that are not right, one of each kind of fault.
func wrongs() []api.Ins {
	return []api.Ins{
		{Op: api.LastOp + 1}, {Op: 255}, {Op: api.Nop, Arg: 1}, {Op: api.Nop, Val: 1}, {Op: api.Push, Arg: 1}, {Op: api.Push, Val: api.NaN + 1},
		{Op: api.Local, Arg: api.MaxLocals}, {Op: api.SetLocal, Arg: -1}, {Op: api.Get, Arg: api.MaxTvars}, {Op: api.Put, Arg: -1}, {Op: api.GetAt, Val: 1},
		{Op: api.PutAt, Arg: math.MaxInt}, {Op: api.Add, Arg: -1}, {Op: api.Jump, Arg: 64}, {Op: api.IfZero, Arg: math.MinInt}, {Op: api.Out, Arg: 1},
		{Op: api.End, Arg: 1}, {Op: api.OrElse, Arg: 64}, {Op: api.Else, Arg: -1}, {Op: api.EndOr, Val: 1}, {Op: api.Retry, Arg: 1}, {Op: api.Jump, Val: 1},
	}
}

// sameState tells whether two States are the same.
func sameState(a, b api.State) bool {
	return a.Pc == b.Pc && slices.Equal(a.Stack, b.Stack) && a.Locals == b.Locals && slices.Equal(a.Out, b.Out)
}

// is holds an Outcome against what it should be.
func is(t *testing.T, o, want api.Outcome) {
	t.Helper()
	if o.Kind != want.Kind || o.Errno != want.Errno || !sameState(o.State, want.State) || !slices.Equal(o.Heap, want.Heap) || !slices.Equal(o.Arms, want.Arms) {
		t.Errorf("it is %+v, not %+v", o, want)
	}
}

// stuckAt is the Outcome of what is stuck.
func stuckAt(s api.State, heap []api.Val, errno api.Errno) api.Outcome {
	return api.Outcome{Kind: api.Stuck, State: s, Heap: heap, Errno: errno}
}
