package verify

import (
	"math"
	"slices"
	"strconv"
	"testing"

	"rowlock/api"
)

// are holds Depths against numbers.
func are(t *testing.T, text string, want ...int) {
	t.Helper()
	if d, at, errno := Depths(of(text)); errno != api.OK || at != 0 || !slices.Equal(d, want) {
		t.Errorf("Depths(%s) is %v, %d, %d, not %v", text, d, at, errno, want)
	}
}

// noDepths holds Depths against a place that is wrong, and why.
func noDepths(t *testing.T, text string, want int, why api.Errno) {
	t.Helper()
	if d, at, errno := Depths(of(text)); errno != why || at != want || len(d) != 0 {
		t.Errorf("Depths(%s) is %v, %d, %d, not %d, %d", text, d, at, errno, want, why)
	}
}

func TestDepths(t *testing.T) {
	if d, at, errno := Depths(nil); errno != api.OK || at != 0 || len(d) != 0 {
		t.Error(d, at, errno)
	}
	are(t, "halt", 0)
	are(t, "push, local 0, add, dup, swap, pop, out, nop, halt", 0, 1, 2, 1, 2, 2, 1, 0, 0)
	are(t, "push, push, less, neg, not, set 0, halt", 0, 1, 2, 1, 1, 1, 0)
	are(t, "atomic 8, get 0, getat 0, dup, putat 0, push, put 0, nop, end, halt", 0, 0, 1, 1, 2, 0, 1, 0, 0, 0)
	are(t, "halt, push, nop", 0, -1, -1)
	are(t, "jump 2, push, halt", 0, -1, 0)
	are(t, "push, zero 3, nop, halt", 0, 1, 0, 0)
	are(t, "push, zero 2, halt", 0, 1, 0)
	are(t, "jump 0", 0)
	are(t, "jump 3, halt, push, jump 1", 0, 0, -1, 0)
	are(t, "atomic 2, retry, end, halt", 0, 0, -1, -1)
	are(t, "retry, halt", 0, -1)
}

// TestArmDepths: a left arm begins as the right one does; behind a left one comes what is behind the EndOr.
func TestArmDepths(t *testing.T) {
	are(t, "push, atomic 8, orelse 4, pop, else 6, pop, endor, nop, end, halt", 0, 1, 1, 1, 0, 1, 0, 0, 0, 0)
	are(t, "atomic 7, orelse 4, push, retry, else 6, push, endor, end, halt", 0, 0, 0, 1, -1, 0, 1, 1, 1)
	are(t, "atomic 7, orelse 4, push, nop, else 6, retry, endor, end, halt", 0, 0, 0, 1, 1, 0, -1, 1, 1)
	are(t, "atomic 6, orelse 3, retry, else 5, retry, endor, end, halt", 0, 0, 0, -1, 0, -1, -1, -1)
	noDepths(t, "atomic 6, orelse 3, push, else 5, nop, endor, end, halt", 5, api.ErrStack)
	noDepths(t, "atomic 6, orelse 3, nop, else 5, push, endor, end, halt", 5, api.ErrStack)
}

func TestStackEdges(t *testing.T) {
	full := times(api.MaxStack, "push")
	want := []int{0, 1, 2, 3, 4, 5, 6, 7, 8, 9, 10, 11, 12}
	are(t, full+"halt", want...)
	are(t, full+"swap, neg, jump 15, halt", append(want, 12, 12, 12)...)
	noDepths(t, full+"push, halt", 12, api.ErrStack)
	noDepths(t, full+"local 0, halt", 12, api.ErrStack)
	noDepths(t, full+"dup, halt", 12, api.ErrStack)
	noDepths(t, "atomic 14, "+full+"get 0, end, halt", 13, api.ErrStack)
	for _, one := range []string{"set 0", "put 0", "pop", "zero 0", "out", "getat 0", "neg", "not", "dup"} {
		noDepths(t, one+", halt", 0, api.ErrStack)
		noDepths(t, "nop, "+one+", halt", 1, api.ErrStack)
	}
	for _, two := range []string{"putat 0", "add", "sub", "mul", "div", "less", "same", "swap"} {
		noDepths(t, two+", halt", 0, api.ErrStack)
		noDepths(t, "push, "+two+", halt", 1, api.ErrStack)
	}
}

func TestUnlikeWays(t *testing.T) {
	noDepths(t, "push, jump 0", 1, api.ErrStack)
	are(t, "push, zero 0, halt", 0, 1, 0)
	noDepths(t, "push, zero 1, halt", 1, api.ErrStack)
	noDepths(t, "push, zero 3, push, halt", 2, api.ErrStack)
	are(t, "push, push, zero 5, pop, jump 6, pop, halt", 0, 1, 2, 1, 0, 1, 0)
	noDepths(t, "push, zero 4, push, jump 5, nop, halt", 4, api.ErrStack)
}

func TestBehindLast(t *testing.T) {
	noDepths(t, "nop", 0, api.ErrForm)
	noDepths(t, "push, out", 1, api.ErrForm)
	noDepths(t, "atomic 1, end", 1, api.ErrForm)
	noDepths(t, "jump 1", 0, api.ErrForm)
	noDepths(t, "jump 64", 0, api.ErrForm)
	noDepths(t, "push, zero 3, halt", 1, api.ErrForm)
	noDepths(t, "push, zero 0", 1, api.ErrForm)
	noDepths(t, "jump -1, halt", 0, api.ErrForm)
	for _, arg := range []int{math.MinInt, -2, 2, 3, math.MaxInt} {
		noDepths(t, "nop, jump "+strconv.Itoa(arg), 1, api.ErrForm)
	}
	// Ways that are never gone are of no matter.
	are(t, "halt, nop", 0, -1)
	are(t, "halt, jump 99", 0, -1)
	are(t, "halt, pop, add", 0, -1, -1)
	// A pop of what is not there comes ahead of where it would go on.
	noDepths(t, "pop", 0, api.ErrStack)
	noDepths(t, "zero 9", 0, api.ErrStack)
	// One next place is looked at behind the other.
	noDepths(t, "push, push, zero 4, halt, jump 0", 4, api.ErrStack)
	noDepths(t, "push, push, zero 0, halt", 2, api.ErrStack)
	noDepths(t, "push, push, push, jump 5, zero 0, jump 4", 4, api.ErrStack)
	noDepths(t, "jump 3, push, halt, push, zero 9", 4, api.ErrForm)
}

// TestOrderOfWays: the least place that is reached is gone through first, also where a way leads back.
func TestOrderOfWays(t *testing.T) {
	noDepths(t, "jump 3, pop, nop, push, zero 1, pop, halt", 1, api.ErrStack)
	noDepths(t, "jump 4, pop, halt, halt, push, zero 1, pop", 1, api.ErrStack)
	noDepths(t, "push, zero 4, nop, pop, pop, halt", 3, api.ErrStack)
	noDepths(t, "push, zero 5, pop, halt, halt, pop, halt", 2, api.ErrStack)
	noDepths(t, "jump 5, halt, jump 99, halt, pop, push, zero 2, pop, halt", 2, api.ErrForm)
	noDepths(t, "jump 5, push, halt, push, jump 1, push, zero 3, pop", 7, api.ErrStack)
	are(t, "jump 4, push, pop, halt, push, zero 1, halt", 0, 0, 1, 0, 0, 1, 0)
	are(t, "jump 5, halt, jump 1, jump 2, jump 3, jump 4", 0, 0, 0, 0, 0, 0)
}

// checks holds Check against a place and an error.
func checks(t *testing.T, l []api.Ins, tvars, want int, why api.Errno) {
	t.Helper()
	if at, errno := Check(l, tvars); at != want || errno != why {
		t.Errorf("Check(%v, %d) is %d, %d, not %d, %d", l, tvars, at, errno, want, why)
	}
}

func TestExamples(t *testing.T) {
	checks(t, of("atomic 2, retry, end, halt"), 1, 0, api.OK)
	checks(t, of("atomic 2, retry, end, halt"), 0, 0, api.OK)
	checks(t, of("get 0, halt"), 1, 0, api.ErrState)
}

func TestSizes(t *testing.T) {
	checks(t, nil, 1, 0, api.ErrForm)
	checks(t, []api.Ins{}, 1, 0, api.ErrForm)
	checks(t, of("halt"), 1, 0, api.OK)
	checks(t, of("jump 0"), 0, 0, api.OK)
	checks(t, of("nop"), 1, 0, api.ErrForm)
	checks(t, of(times(api.MaxCode-1, "nop")+"halt"), 1, 0, api.OK)
	checks(t, of(times(api.MaxCode, "nop")+"halt"), 1, 0, api.ErrForm)
	checks(t, of(times(api.MaxCode, "halt")), 1, 0, api.OK)
	checks(t, of(times(api.MaxCode+1, "halt")), 1, 0, api.ErrForm)
	checks(t, of(times(1000, "end")), 1, 0, api.ErrForm)
	checks(t, of("jump 63, "+times(api.MaxCode-2, "nop")+"jump 0"), 1, 0, api.OK)
}

// TestNotRight: what is not right is told at its place, ahead of all that its brackets have.
func TestNotRight(t *testing.T) {
	wrongs := []api.Ins{
		{Op: api.LastOp + 1}, {Op: 255}, {Op: api.Nop, Arg: 1}, {Op: api.Nop, Val: 1}, {Op: api.Push, Arg: 1}, {Op: api.Push, Val: api.NaN + 1},
		{Op: api.Local, Arg: api.MaxLocals}, {Op: api.SetLocal, Arg: -1}, {Op: api.Get, Arg: api.MaxTvars}, {Op: api.PutAt, Arg: -1}, {Op: api.Jump, Arg: 64},
		{Op: api.IfZero, Arg: -1}, {Op: api.Jump, Arg: math.MinInt}, {Op: api.Atomic, Arg: 64}, {Op: api.Else, Arg: math.MaxInt}, {Op: api.End, Arg: 3}, {Op: api.Halt, Val: api.One},
	}
	for _, w := range wrongs {
		for at := range 3 {
			l := of("halt, end, get 0, orelse 7")
			l[at] = w
			checks(t, l, 1, at, api.ErrForm)
			l[3] = wrongs[0]
			checks(t, l, 1, at, api.ErrForm)
		}
	}
}

// TestStanding: what may stand inside alone, and what outside alone.
func TestStanding(t *testing.T) {
	for _, text := range []string{"get 0", "put 0", "getat 0", "putat 0", "retry"} {
		checks(t, of(text+", halt"), 1, 0, api.ErrState)
		checks(t, of("push, push, "+text+", halt"), 1, 2, api.ErrState)
		checks(t, of("atomic 1, end, halt, "+text), 1, 3, api.ErrState)
		checks(t, of("push, push, atomic 4, "+text+", end, halt"), 1, 0, api.OK)
		checks(t, of("push, push, atomic 8, orelse 5, "+text+", else 7, "+text+", endor, end, halt"), 1, 0, api.OK)
	}
	for _, text := range []string{"out", "halt"} {
		checks(t, of("push, "+text+", halt"), 1, 0, api.OK)
		checks(t, of("push, atomic 3, "+text+", end, halt"), 1, 2, api.ErrState)
		checks(t, of("push, atomic 6, orelse 4, "+text+", else 5, endor, end, halt"), 1, 3, api.ErrState)
		checks(t, of("push, atomic 6, orelse 3, else 5, "+text+", endor, end, halt"), 1, 4, api.ErrState)
		checks(t, of("jump 4, atomic 3, "+text+", end, halt"), 1, 2, api.ErrState)
	}
	checks(t, of("atomic 2, halt, end, get 0, halt"), 1, 1, api.ErrState)
	checks(t, of("get 0, atomic 3, halt, end, halt"), 1, 0, api.ErrState)
}

func TestVariables(t *testing.T) {
	for _, word := range []string{"get", "put", "getat", "putat"} {
		for arg := range api.MaxTvars {
			l := of("push, push, atomic 4, " + word + " " + strconv.Itoa(arg) + ", end, halt")
			for _, tvars := range []int{arg + 1, arg + 2, api.MaxTvars, api.MaxTvars + 1, math.MaxInt} {
				checks(t, l, tvars, 0, api.OK)
			}
			for _, tvars := range []int{math.MinInt, -1, 0, arg - 1, arg} {
				checks(t, l, tvars, 3, api.ErrRange)
			}
		}
	}
	checks(t, of("atomic 4, get 2, get 5, get 3, end, halt"), 3, 2, api.ErrRange)
	checks(t, of("push, out, halt"), -1, 0, api.OK)
	// Locals are no variables.
	checks(t, of("local 3, set 2, halt"), 0, 0, api.OK)
}

func TestJumps(t *testing.T) {
	for _, word := range []string{"jump", "zero"} {
		// Places outside are 0 to 2, 8, 9; in the block 3, 7; in the left arm 4, 5; in the right one 6.
		in := []int{-1, -1, -1, 2, 3, 3, 5, 2, -1, -1}
		base := of("push, nop, atomic 7, orelse 5, nop, else 6, endor, end, nop, halt")
		for from := range base {
			for to := range 64 {
				l := jumpAt(base, from, word, to)
				if l == nil {
					continue
				}
				at, errno := Check(l, 1)
				same := to < len(in) && in[to] == in[from]
				if !same && (at != from || errno != api.ErrRange) || same && errno == api.ErrRange {
					t.Errorf("%s from %d to %d is %d, %d", word, from, to, at, errno)
				}
			}
		}
	}
	checks(t, of("jump 0"), 1, 0, api.OK)
	checks(t, of("jump 1, halt"), 1, 0, api.OK)
	checks(t, of("jump 2, halt"), 1, 0, api.ErrRange)
	checks(t, of("push, zero 0, halt"), 1, 0, api.OK)
	checks(t, of("push, zero 1, halt"), 1, 1, api.ErrStack)
	checks(t, of("push, zero 2, halt"), 1, 0, api.OK)
	checks(t, of("push, zero 3, halt"), 1, 1, api.ErrRange)
	checks(t, of("atomic 3, get 0, zero 3, end, jump 0"), 1, 0, api.OK)
	checks(t, of("atomic 3, get 0, zero 4, end, halt"), 1, 2, api.ErrRange)
	checks(t, of("jump 1, atomic 2, end, halt"), 1, 0, api.OK)
	checks(t, of("jump 2, atomic 2, end, halt"), 1, 0, api.ErrRange)
	// Also where it is never reached.
	checks(t, of("halt, jump 9"), 1, 1, api.ErrRange)
}

// jumpAt is a program with a jump instead of what stands at a place; nil, if that is a bracket.
func jumpAt(base []api.Ins, from int, word string, to int) []api.Ins {
	if base[from].Op != api.Nop && base[from].Op != api.Push {
		return nil
	}
	l := slices.Clone(base)
	l[from] = of(word + " " + strconv.Itoa(to))[0]
	return l
}

// TestOrderOfErrors: what is named first is told, wherever it stands; each row has one fault less than the one above it.
func TestOrderOfErrors(t *testing.T) {
	wrong := api.Ins{Op: api.Nop, Arg: 1}
	l := append(of("pop, jump 9, get 0, end"), wrong)
	checks(t, slices.Concat(l, of(times(60, "nop"))), 1, 0, api.ErrForm)
	checks(t, l, 1, 4, api.ErrForm)
	checks(t, l[:4], 1, 3, api.ErrState)
	checks(t, l[:3], 1, 2, api.ErrState)
	checks(t, l[:2], 1, 1, api.ErrRange)
	checks(t, of("pop, jump 0"), 1, 0, api.ErrStack)
	// The end that is missing comes last, too.
	checks(t, of("nop, pop"), 1, 1, api.ErrStack)
	checks(t, of("nop, push"), 1, 1, api.ErrForm)
	// ErrRange of variables and of places is one error: the least place counts.
	checks(t, of("atomic 3, get 5, jump 9, end, halt"), 1, 1, api.ErrRange)
	checks(t, of("atomic 3, jump 9, get 5, end, halt"), 1, 1, api.ErrRange)
	checks(t, of("atomic 4, jump 9, get 5, retry, end, out, get 0, halt"), 1, 6, api.ErrState)
	checks(t, of("atomic 3, out, end, get 0, halt"), 1, 0, api.ErrState)
}

// TestUnreached: what is never reached may not be wrong but by its stack.
func TestUnreached(t *testing.T) {
	checks(t, of("halt, pop, add, nop"), 1, 0, api.OK)
	checks(t, of("halt, get 0"), 1, 1, api.ErrState)
	checks(t, of("halt, atomic 3, get 1, end"), 1, 2, api.ErrRange)
	checks(t, of("jump 2, pop, halt"), 1, 0, api.OK)
}
