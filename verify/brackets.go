package verify

import "rowlock/api"

// outside is the place of the bracket in which what stands in none stands.
const outside = -1

// stack is a stack of any type.
type stack[T any] struct{ items []T }

func (s *stack[T]) push(item T) { s.items = append(s.items, item) }

func (s *stack[T]) pop() { s.items = s.items[:s.size()-1] }

func (s *stack[T]) size() int { return len(s.items) }

// top is the uppermost item; false, if there is none.
func (s *stack[T]) top() (item T, ok bool) {
	if s.size() == 0 {
		return item, false
	}
	return s.items[s.size()-1], true
}

// bracket is one that is open: where it was opened, and which operation closes it.
type bracket struct {
	at     int
	closer api.OpCode
}

// matching is how far the brackets of a program are matched: those that are open, of each instruction the place of the one that it stands in, and the least place that is wrong.
type matching struct {
	open  stack[bracket]
	in    []int
	wrong int
	fault bool
}

// Regions are the places of the bracket that each instruction stands in (-1: none); else the first place that is wrong.
func Regions(l []api.Ins) ([]int, int, api.Errno) {
	m := matchingOf(l)
	if last, ok := m.open.top(); ok && !m.fault {
		m.blame(last.at)
	}
	if m.fault {
		return nil, m.wrong, api.ErrState
	}
	return m.in, 0, api.OK
}

// matchingOf goes through all of a program, also behind what is wrong: a bracket ahead of that may turn out to have a wrong Arg.
func matchingOf(l []api.Ins) *matching {
	m := &matching{in: make([]int, len(l))}
	for at, i := range l {
		m.in[at] = m.around()
		if closes(i.Op) {
			m.shut(l, at)
		}
		if closer, ok := closerOf(i.Op); ok {
			m.begin(i.Op, bracket{at, closer})
		}
	}
	return m
}

// around is the place of the innermost bracket that is open.
func (m *matching) around() int {
	if b, ok := m.open.top(); ok {
		return b.at
	}
	return outside
}

// blame tells that a place is wrong.
func (m *matching) blame(at int) {
	if !m.fault || at < m.wrong {
		m.wrong, m.fault = at, true
	}
}

// shut closes the innermost bracket, if what stands at a place is what closes it: what is wrong closes nothing.
func (m *matching) shut(l []api.Ins, at int) {
	b, ok := m.open.top()
	if !ok || b.closer != l[at].Op {
		m.blame(at)
		return
	}
	if l[b.at].Arg != at {
		m.blame(b.at)
	}
	m.open.pop()
}

// begin opens a bracket, where it may stand or not: so what closes it is still found.
func (m *matching) begin(o api.OpCode, b bracket) {
	if !m.mayBegin(o) {
		m.blame(b.at)
	}
	m.open.push(b)
}

// mayBegin tells whether a bracket may be opened by an operation here. Of those that are open the lowest is the block, all others are arms.
func (m *matching) mayBegin(o api.OpCode) bool {
	switch o {
	case api.Atomic:
		return m.open.size() == 0
	case api.OrElse:
		return 0 < m.open.size() && m.open.size() <= api.MaxDepth
	}
	return true
}

// closes tells whether an operation closes a bracket.
func closes(o api.OpCode) bool { return o == api.End || o == api.Else || o == api.EndOr }

// closerOf is the operation that closes what another one opens; false, if it opens nothing.
func closerOf(o api.OpCode) (api.OpCode, bool) {
	switch o {
	case api.Atomic:
		return api.End, true
	case api.OrElse:
		return api.Else, true
	case api.Else:
		return api.EndOr, true
	}
	return 0, false
}

// Inside tells of each instruction whether it stands in a bracket.
func Inside(l []api.Ins) []bool {
	in, _, errno := Regions(l)
	if errno != api.OK {
		return nil
	}
	inside := make([]bool, len(in))
	for at := range in {
		inside[at] = in[at] != outside
	}
	return inside
}

// Blocks are the places of the Atomics, rising.
func Blocks(l []api.Ins) []int {
	var places []int
	for at, i := range l {
		if i.Op == api.Atomic {
			places = append(places, at)
		}
	}
	return places
}
