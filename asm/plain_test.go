package asm

import (
	"regexp"
	"slices"
	"strconv"
	"strings"

	"rowlock/api"
	"rowlock/code"
	"rowlock/value"
)

// numbers draws numbers below n, the same ones for the same seed.
func numbers(seed uint64) func(n int) int {
	return func(n int) int {
		seed = seed*6364136223846793005 + 1442695040888963407
		return int(seed >> 33 % uint64(n))
	}
}

// The forms of lines, without blanks around them.
var (
	labelForm = regexp.MustCompile(`^([a-z]{1,8}):$`)
	bareForm  = regexp.MustCompile(`^(nop|add|sub|mul|div|neg|less|same|not|dup|pop|swap|atomic|end|orelse|else|endor|retry|out|halt)$`)
	wholeForm = regexp.MustCompile(`^push +(0|-?[1-9][0-9]{0,3})$`)
	bitsForm  = regexp.MustCompile(`^push +x([0-9a-f]{16})$`)
	jumpForm  = regexp.MustCompile(`^(jump|zero) +([a-z]{1,8})$`)
	localForm = regexp.MustCompile(`^(local|set) +([0-3])$`)
	heapForm  = regexp.MustCompile(`^(get|put|getat|putat) +([0-9]|1[01])$`)
)

// plainLines are what Lines should be.
func plainLines(text string) []string {
	l := strings.Split(text, "\n")
	for at := range l {
		line, _, _ := strings.Cut(l[at], "#")
		l[at] = strings.Trim(line, " ")
	}
	return l
}

// plainSays is what a line says: an instruction and the label of a jump, or a label.
func plainSays(line string) (i api.Ins, target, label string, ok bool) {
	if m := labelForm.FindStringSubmatch(line); m != nil {
		return api.Ins{}, "", m[1], true
	}
	if m := bareForm.FindStringSubmatch(line); m != nil {
		i.Op, _ = code.ReadWord(m[1])
		return i, "", "", true
	}
	if m := wholeForm.FindStringSubmatch(line); m != nil {
		n, _ := strconv.Atoi(m[1])
		return api.Ins{Op: api.Push, Val: value.Of(float64(n))}, "", "", true
	}
	if m := bitsForm.FindStringSubmatch(line); m != nil {
		bits, _ := strconv.ParseUint(m[1], 16, 64)
		return api.Ins{Op: api.Push, Val: api.Val(bits)}, "", "", value.Right(api.Val(bits))
	}
	if m := jumpForm.FindStringSubmatch(line); m != nil {
		i.Op, _ = code.ReadWord(m[1])
		return i, m[2], "", true
	}
	for _, form := range []*regexp.Regexp{localForm, heapForm} {
		if m := form.FindStringSubmatch(line); m != nil {
			i.Op, _ = code.ReadWord(m[1])
			i.Arg, _ = strconv.Atoi(m[2])
			return i, "", "", true
		}
	}
	return api.Ins{}, "", "", false
}

// plainAssemble is what Assemble should be.
func plainAssemble(text string) ([]api.Ins, int, api.Errno) {
	var l []api.Ins
	var lines, labelLines []int
	var targets, labels []string
	var places []int
	for n, line := range plainLines(text) {
		if line == "" {
			continue
		}
		i, target, label, ok := plainSays(line)
		switch {
		case !ok:
			return nil, n + 1, api.ErrForm
		case label != "":
			labels, labelLines, places = append(labels, label), append(labelLines, n+1), append(places, len(l))
		default:
			l, lines, targets = append(l, i), append(lines, n+1), append(targets, target)
		}
	}
	if len(l) > 64 {
		return nil, lines[64], api.ErrSpace
	}
	for at, label := range labels {
		if slices.Index(labels, label) < at {
			return nil, labelLines[at], api.ErrExist
		}
	}
	for at, target := range targets {
		if target == "" {
			continue
		}
		to := slices.Index(labels, target)
		if to < 0 || places[to] == len(l) {
			return nil, lines[at], api.ErrNoent
		}
		l[at].Arg = places[to]
	}
	if wrong := plainPair(l); wrong >= 0 {
		return nil, lines[wrong], api.ErrState
	}
	return l, 0, api.OK
}

// plainPair gives brackets their Args; it tells the place that is wrong (-1: none).
func plainPair(l []api.Ins) int {
	closer := map[api.OpCode]api.OpCode{api.Atomic: api.End, api.OrElse: api.Else, api.Else: api.EndOr}
	closed := map[int]bool{}
	for at, i := range l {
		last, open := -1, 0
		for p := range at {
			if _, opens := closer[l[p].Op]; opens && !closed[p] {
				last, open = p, open+1
			}
		}
		switch {
		case i.Op == api.Atomic && open > 0, i.Op == api.OrElse && (open == 0 || open > 4):
			return at
		case i.Op == api.End || i.Op == api.Else || i.Op == api.EndOr:
			if last < 0 || closer[l[last].Op] != i.Op {
				return at
			}
			l[last].Arg, closed[last] = at, true
		}
	}
	for at := len(l) - 1; at >= 0; at-- {
		if _, opens := closer[l[at].Op]; opens && !closed[at] {
			return at
		}
	}
	return -1
}
