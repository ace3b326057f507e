package object

import (
	"slices"

	"rowlock/api"
	"rowlock/value"
)

const (
	nobody    = -1
	mostFirst = 9  // of a semaphore, when it is made
	mostCount = 99 // of a semaphore at all
)

// thing is what the kinds of objects differ in.
type thing interface {
	takes(c api.CallKind) bool
	// do does a call that it takes, and that is right.
	do(c api.Call) api.Answer
	shape() api.Shape
}

type (
	mutex     struct{ owner int }
	semaphore struct{ count int }
	queue     struct {
		size int
		vals []api.Val
	}
	barrier struct {
		size, arrived, gen int
	}
)

// Answers that need no more words.
var (
	one    = api.Answer{Val: api.One}
	blocks = api.Answer{Blocks: true}
)

// thingOf is one of a kind and size; nil: it may not be.
func thingOf(k api.ObjectKind, size int) thing {
	switch {
	case k == api.Mutex && size == 0:
		return &mutex{nobody}
	case k == api.Semaphore && 0 <= size && size <= mostFirst:
		return &semaphore{size}
	case k == api.Queue && 1 <= size && size <= api.MaxQueue:
		return &queue{size: size}
	case k == api.Barrier && 1 <= size && size <= api.MaxThreads:
		return &barrier{size: size}
	}
	return nil
}

// kindOf is the kind of a thing.
func kindOf(t thing) api.ObjectKind {
	switch t.(type) {
	case *mutex:
		return api.Mutex
	case *semaphore:
		return api.Semaphore
	case *queue:
		return api.Queue
	case *barrier:
		return api.Barrier
	}
	return api.NoObject
}

// copied is another thing with the same.
func copied(t thing) thing {
	switch own := t.(type) {
	case *mutex:
		other := *own
		return &other
	case *semaphore:
		other := *own
		return &other
	case *queue:
		return &queue{own.size, slices.Clone(own.vals)}
	case *barrier:
		other := *own
		return &other
	}
	return nil
}

func (*mutex) takes(c api.CallKind) bool { return c == api.LockIt || c == api.UnlockIt }

func (m *mutex) do(c api.Call) api.Answer {
	if c.Kind == api.LockIt {
		return m.lock(c.Who)
	}
	return m.unlock(c.Who)
}

// lock blocks also whoever has it already: it is not counted how often.
func (m *mutex) lock(who int) api.Answer {
	if m.owner != nobody {
		return blocks
	}
	m.owner = who
	return one
}

func (m *mutex) unlock(who int) api.Answer {
	if m.owner != who {
		return api.Answer{}
	}
	m.owner = nobody
	return one
}

func (m *mutex) shape() api.Shape { return api.Shape{Owner: m.owner} }

func (*semaphore) takes(c api.CallKind) bool { return c == api.DownIt || c == api.UpIt }

func (s *semaphore) do(c api.Call) api.Answer {
	if c.Kind == api.DownIt {
		return s.down()
	}
	return s.up()
}

func (s *semaphore) down() api.Answer {
	if s.count == 0 {
		return blocks
	}
	s.count--
	return one
}

func (s *semaphore) up() api.Answer {
	if s.count >= mostCount {
		return api.Answer{Errno: api.ErrSpace}
	}
	s.count++
	return one
}

func (s *semaphore) shape() api.Shape { return api.Shape{Owner: nobody, Count: s.count} }

func (*queue) takes(c api.CallKind) bool { return c == api.EnterIt || c == api.TakeIt }

func (q *queue) do(c api.Call) api.Answer {
	if c.Kind == api.EnterIt {
		return q.enter(c.Val)
	}
	return q.take()
}

func (q *queue) enter(v api.Val) api.Answer {
	if len(q.vals) >= q.size {
		return blocks
	}
	q.vals = append(q.vals, v)
	return one
}

func (q *queue) take() api.Answer {
	if len(q.vals) == 0 {
		return blocks
	}
	first := q.vals[0]
	q.vals = slices.Delete(q.vals, 0, 1)
	return api.Answer{Val: first}
}

func (q *queue) shape() api.Shape { return api.Shape{Owner: nobody, Vals: slices.Clone(q.vals)} }

func (*barrier) takes(c api.CallKind) bool { return c == api.ArriveIt || c == api.LeaveIt }

func (b *barrier) do(c api.Call) api.Answer {
	gen, _ := value.Int(b.gen)
	if c.Kind == api.ArriveIt {
		b.arrive()
		return api.Answer{Val: gen}
	}
	if !value.Less(c.Val, gen) {
		return blocks
	}
	return one
}

// arrive notes that one more has. The last one opens the barrier to all of its generation.
func (b *barrier) arrive() {
	b.arrived++
	if b.arrived == b.size {
		b.arrived, b.gen = 0, b.gen+1
	}
}

func (b *barrier) shape() api.Shape {
	return api.Shape{Owner: nobody, Count: b.arrived, Gen: b.gen}
}
