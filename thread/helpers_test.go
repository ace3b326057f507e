package thread

import (
	"slices"
	"strconv"
	"strings"
	"testing"

	"rowlock/api"
	"rowlock/code"
	"rowlock/value"
)

// of is the instructions that a text names, with commas between; Args may be any; push has a number.
func of(text string) []api.Ins {
	var l []api.Ins
	for part := range strings.SplitSeq(text, ",") {
		words := strings.Fields(part)
		if len(words) == 0 {
			continue
		}
		op, ok := code.ReadWord(words[0])
		if !ok {
			panic("no operation: " + part)
		}
		i := api.Ins{Op: op}
		switch {
		case op == api.Push:
			i.Val = vals(words[1])[0]
		case len(words) > 1:
			n, err := strconv.Atoi(words[1])
			if err != nil {
				panic("no Arg: " + part)
			}
			i.Arg = n
		}
		l = append(l, i)
	}
	return l
}

// vals are the values that a text names, with blanks between.
func vals(text string) []api.Val {
	var l []api.Val
	for word := range strings.FieldsSeq(text) {
		f, err := strconv.ParseFloat(word, 64)
		if err != nil {
			panic("no number: " + word)
		}
		l = append(l, value.Of(f))
	}
	return l
}

// val is the value that a text names.
func val(text string) api.Val { return vals(text)[0] }

// times is a text some times over, with commas behind.
func times(n int, text string) string { return strings.Repeat(text+", ", n) }

// Needs that are told often.
var (
	none   = api.Need{}
	begins = api.Need{Kind: api.BeginNeed}
	retry  = api.Need{Kind: api.RetryNeed}
	halts  = api.Need{Kind: api.HaltNeed}
	pushIt = asked(api.PushIt, 0, 0)
	merge  = asked(api.MergeIt, 0, 0)
	drop   = asked(api.DropIt, 0, 0)
	commit = asked(api.CommitIt, 0, 0)
)

// asked is the need of something that is asked for.
func asked(k api.AskKind, tvar int, v api.Val) api.Need {
	return api.Need{Kind: api.AskNeed, Ask: api.Ask{Kind: k, Tvar: tvar, Val: v}}
}

// reads is the need of a variable's value.
func reads(tvar int) api.Need { return asked(api.ReadIt, tvar, 0) }

// writes is the need that a variable has a value.
func writes(tvar int, v string) api.Need { return asked(api.WriteIt, tvar, val(v)) }

// sameState tells whether two States are the same.
func sameState(a, b api.State) bool {
	return a.Pc == b.Pc && slices.Equal(a.Stack, b.Stack) && a.Locals == b.Locals && slices.Equal(a.Out, b.Out)
}

// look is all that a thread tells of itself.
type look struct {
	state  api.State
	inside bool
	marks  int
	needs  api.Need
	left   []bool
}

// lookAt is what a thread tells.
func lookAt(th *Thread) look {
	return look{th.State(), th.Inside(), th.Marks(), th.Needs(), th.Left()}
}

// same tells whether two tell the same.
func (a look) same(b look) bool {
	return sameState(a.state, b.state) && a.inside == b.inside && a.marks == b.marks && a.needs == b.needs && slices.Equal(a.left, b.left)
}

// looks holds a thread against what it should tell.
func looks(t *testing.T, th *Thread, want look) {
	t.Helper()
	if got := lookAt(th); !got.same(want) {
		t.Errorf("it is %+v, not %+v", got, want)
	}
}

// steps holds Step of a thread, and Needs behind it, against a need; what is needed is told again, and nothing changes by that.
func steps(t *testing.T, th *Thread, want api.Need) {
	t.Helper()
	if n := th.Step(); n != want {
		t.Fatalf("Step is %+v, not %+v, at %+v", n, want, th.State())
	}
	if n := th.Needs(); n != want {
		t.Fatalf("Needs is %+v, not %+v", n, want)
	}
	if want.Kind == api.NoNeed {
		return
	}
	was := lookAt(th)
	for range 2 {
		if n := th.Step(); n != want {
			t.Fatalf("Step is %+v then, not %+v", n, want)
		}
	}
	looks(t, th, was)
}

// fine holds an error against none.
func fine(t *testing.T, errno api.Errno) {
	t.Helper()
	if errno != api.OK {
		t.Fatalf("the error is %d", errno)
	}
}

// gives holds Step against something that is asked for, and gives it.
func gives(t *testing.T, th *Thread, want api.Need, v string) {
	t.Helper()
	steps(t, th, want)
	fine(t, th.Give(val(v)))
	if n := th.Needs(); n != none {
		t.Fatalf("it needs %+v behind Give", n)
	}
}

// enters goes into a block that begins here.
func enters(t *testing.T, th *Thread) {
	t.Helper()
	steps(t, th, begins)
	fine(t, th.Began())
}

// goes lets a thread go on by itself, so many steps.
func goes(t *testing.T, th *Thread, n int) {
	t.Helper()
	for range n {
		steps(t, th, none)
	}
}

// inside is a thread within its first block, with a stack; the block's text begins at place 0 of the program's, behind what pushes.
func inside(t *testing.T, stack, text string) *Thread {
	t.Helper()
	var pushes string
	n := 0
	for word := range strings.FieldsSeq(stack) {
		pushes += "push " + word + ", "
		n++
	}
	th := New(of(pushes + "atomic 9, " + text))
	goes(t, th, n)
	enters(t, th)
	return th
}

// stucks holds a thread against being stuck where it is: nothing has changed.
func stucks(t *testing.T, th *Thread, why api.Errno) {
	t.Helper()
	was := lookAt(th)
	steps(t, th, stuck(why))
	was.needs = stuck(why)
	looks(t, th, was)
}
