package verify

import (
	"slices"
	"strconv"
	"strings"

	"rowlock/api"
	"rowlock/code"
)

// of is the instructions that a text names, with commas between; Args may be any; push without anything pushes api.One.
func of(text string) []api.Ins {
	var l []api.Ins
	for part := range strings.SplitSeq(text, ",") {
		words := strings.Fields(part)
		if len(words) == 0 {
			continue
		}
		op, ok := code.ReadWord(words[0])
		if !ok {
			panic("no operation: " + part)
		}
		i := api.Ins{Op: op}
		if op == api.Push {
			i.Val = api.One
		}
		if len(words) > 1 {
			n, err := strconv.Atoi(words[1])
			if err != nil {
				panic("no Arg: " + part)
			}
			i.Arg = n
		}
		l = append(l, i)
	}
	return l
}

// times is a text some times over, with commas behind.
func times(n int, text string) string { return strings.Repeat(text+", ", n) }

// numbers draws numbers below n, the same ones for the same seed.
func numbers(seed uint64) func(n int) int {
	return func(n int) int {
		seed = seed*6364136223846793005 + 1442695040888963407
		return int(seed >> 33 % uint64(n))
	}
}

// closedBy is which operation closes which one.
var closedBy = map[api.OpCode]api.OpCode{api.Atomic: api.End, api.OrElse: api.Else, api.Else: api.EndOr}

// matched are the brackets in the plainest way: of each place what closes it (-1: nothing), and which one was opened last and is not closed ahead of it (-1: none).
func matched(l []api.Ins) (closer, around []int) {
	for q, i := range l {
		last := -1
		for p := range q {
			if _, opens := closedBy[l[p].Op]; opens && closer[p] < 0 {
				last = p
			}
		}
		closer, around = append(closer, -1), append(around, last)
		if last >= 0 && closedBy[l[last].Op] == i.Op {
			closer[last] = q
		}
	}
	return closer, around
}

// paired is a program with the Args that its brackets should have.
func paired(l []api.Ins) []api.Ins {
	l = slices.Clone(l)
	closer, _ := matched(l)
	for at, by := range closer {
		if by >= 0 {
			l[at].Arg = by
		}
	}
	return l
}

// armsAround is how many arms are open ahead of a place.
func armsAround(l []api.Ins, closer []int, at int) int {
	n := 0
	for p := range at {
		if (l[p].Op == api.OrElse || l[p].Op == api.Else) && (closer[p] < 0 || closer[p] >= at) {
			n++
		}
	}
	return n
}

// plainRegions is what Regions should be.
func plainRegions(l []api.Ins) ([]int, int, api.Errno) {
	closer, around := matched(l)
	open := -1
	for at, i := range l {
		wrong := false
		switch i.Op {
		case api.Atomic:
			wrong = around[at] >= 0
		case api.OrElse:
			wrong = around[at] < 0 || armsAround(l, closer, at) >= api.MaxDepth
		}
		if i.Op == api.End || i.Op == api.Else || i.Op == api.EndOr {
			wrong = around[at] < 0 || closer[around[at]] != at
		}
		if _, opens := closedBy[i.Op]; opens {
			wrong = wrong || closer[at] >= 0 && i.Arg != closer[at]
			if closer[at] < 0 {
				open = at
			}
		}
		if wrong {
			return nil, at, api.ErrState
		}
	}
	if open >= 0 {
		return nil, open, api.ErrState
	}
	return around, 0, api.OK
}

// plainNexts are the places behind a place.
func plainNexts(l []api.Ins, at int) []int {
	i := l[at]
	switch i.Op {
	case api.Jump:
		return []int{i.Arg}
	case api.IfZero:
		return []int{at + 1, i.Arg}
	case api.OrElse:
		return []int{at + 1, i.Arg + 1}
	case api.Else:
		return []int{i.Arg + 1}
	case api.Retry, api.Halt:
		return nil
	}
	return []int{at + 1}
}

// plainDepths is what Depths should be: again and again all places are looked at from the first one on.
func plainDepths(l []api.Ins) ([]int, int, api.Errno) {
	if _, at, errno := plainRegions(l); errno != api.OK {
		return nil, at, errno
	}
	depth := slices.Repeat([]int{-1}, len(l))
	gone := map[int]bool{}
	for {
		at := slices.IndexFunc(depth, func(n int) bool { return n >= 0 })
		if len(gone) == 0 && len(l) > 0 {
			at, depth[0] = 0, 0
		}
		for at >= 0 && at < len(l) && (gone[at] || depth[at] < 0) {
			at++
		}
		if at < 0 || at == len(l) {
			return depth, 0, api.OK
		}
		gone[at] = true
		pops, pushes := code.Effect(l[at].Op)
		behind := depth[at] - pops + pushes
		if depth[at] < pops || behind > api.MaxStack {
			return nil, at, api.ErrStack
		}
		for _, next := range plainNexts(l, at) {
			if next < 0 || next >= len(l) {
				return nil, at, api.ErrForm
			}
			if depth[next] >= 0 && depth[next] != behind {
				return nil, at, api.ErrStack
			}
			depth[next] = behind
		}
	}
}

// plainCheck is what Check should be.
func plainCheck(l []api.Ins, tvars int) (int, api.Errno) {
	if len(l) < 1 || len(l) > 64 {
		return 0, api.ErrForm
	}
	if at := slices.IndexFunc(l, func(i api.Ins) bool { return !code.Right(i) }); at >= 0 {
		return at, api.ErrForm
	}
	in, at, errno := plainRegions(l)
	if errno != api.OK {
		return at, errno
	}
	ofHeap := func(o api.OpCode) bool { return o >= api.Get && o <= api.PutAt }
	for at, i := range l {
		if in[at] < 0 && (ofHeap(i.Op) || i.Op == api.Retry) || in[at] >= 0 && (i.Op == api.Out || i.Op == api.Halt) {
			return at, api.ErrState
		}
	}
	for at, i := range l {
		if ofHeap(i.Op) && i.Arg >= tvars {
			return at, api.ErrRange
		}
		if (i.Op == api.Jump || i.Op == api.IfZero) && (i.Arg >= len(l) || in[i.Arg] != in[at]) {
			return at, api.ErrRange
		}
	}
	_, at, errno = plainDepths(l)
	return at, errno
}
