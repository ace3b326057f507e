package asm

import (
	"strings"

	"rowlock/api"
	"rowlock/verify"
)

// program is what the lines of a text say, one thing behind the other: each error has a turn of its own, since one that is named first counts wherever its line stands.
type program struct {
	code    []api.Ins
	lines   []int    // of each instruction
	targets []string // of each instruction the label that it goes on to; the empty text, if it has none
	labels  []label
}

// label is one, with its line, and the place of the next instruction.
type label struct {
	name     string
	line, at int
}

// programOf is what all lines of a text say.
func programOf(text string) *program {
	p := &program{}
	for n, line := range Lines(text) {
		if line != "" {
			p.add(n+1, line)
		}
	}
	return p
}

// add goes on by a line that is not empty.
func (p *program) add(line int, text string) {
	s, ok := read(strings.FieldsFunc(text, isBlank))
	need(ok, line, api.ErrForm)
	if s.label != "" {
		p.labels = append(p.labels, label{s.label, line, len(p.code)})
		return
	}
	p.code = append(p.code, s.ins)
	p.lines = append(p.lines, line)
	p.targets = append(p.targets, s.target)
}

func isBlank(sign rune) bool { return sign == ' ' }

// fit gives up the first instruction for which there is no room.
func (p *program) fit() {
	if len(p.code) > api.MaxCode {
		need(false, p.lines[api.MaxCode], api.ErrSpace)
	}
}

// places are those of the labels, by their names.
func (p *program) places() map[string]int {
	found := make(map[string]int, len(p.labels))
	for _, one := range p.labels {
		_, again := found[one.name]
		need(!again, one.line, api.ErrExist)
		found[one.name] = one.at
	}
	return found
}

// aim gives all that goes on to a label its place.
func (p *program) aim(places map[string]int) {
	for at, target := range p.targets {
		if target == "" {
			continue
		}
		place, ok := places[target]
		need(ok && place < len(p.code), p.lines[at], api.ErrNoent)
		p.code[at].Arg = place
	}
}

// pair gives all that opens a bracket the place of what closes it, as verify matches them: so it is never an Arg that is wrong by verify.
func (p *program) pair() {
	var open []int
	for at, i := range p.code {
		last := len(open) - 1
		if last >= 0 && closerOf(p.code[open[last]].Op) == i.Op {
			p.code[open[last]].Arg = at
			open = open[:last]
		}
		if opens(i.Op) {
			open = append(open, at)
		}
	}
	if _, at, errno := verify.Regions(p.code); errno != api.OK {
		need(false, p.lines[at], errno)
	}
}
