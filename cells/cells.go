// Package cells is words that are shared. See ../../shared/doc/02-cells.md.
package cells

import (
	"math/bits"

	"rowlock/api"
)

// Cells is some, with all that was done to them.
type Cells struct {
	words []uint64
	log   []api.Done
}

// New is n cells, all 0; nil, if there may not be so many.
func New(n int) *Cells {
	if n < 1 || n > api.MaxCells {
		return nil
	}
	return &Cells{words: make([]uint64, n)}
}

// Do does an op, and notes it.
func (c *Cells) Do(o api.Op) (api.Done, api.Errno) {
	word, e := c.Word(o.Cell)
	if e != api.OK {
		return api.Done{}, e
	}
	behind, ok, e := outcome(o, word)
	if e != api.OK {
		return api.Done{}, e
	}
	done := api.Done{Op: o, Word: word, Ok: ok}
	c.words[o.Cell] = behind
	c.log = append(c.log, done)
	return done, api.OK
}

// outcome is what stands behind o where word stood, and whether o is Ok.
func outcome(o api.Op, word uint64) (behind uint64, ok bool, e api.Errno) {
	stored := o.A
	switch o.Kind {
	case api.LoadOp:
		return word, true, api.OK
	case api.CasOp:
		if word != o.A {
			return word, false, api.OK
		}
		stored = o.B
		fallthrough
	case api.StoreOp:
		return stored, true, api.OK
	case api.AddOp:
		sum, carry := bits.Add64(word, o.A, 0)
		if carry != 0 {
			return 0, false, api.ErrSpace
		}
		return sum, true, api.OK
	}
	return 0, false, api.ErrForm
}

// Word is what stands in cell i.
func (c *Cells) Word(i int) (uint64, api.Errno) {
	if c == nil {
		return 0, api.ErrNil
	}
	if i < 0 || i >= len(c.words) {
		return 0, api.ErrRange
	}
	return c.words[i], api.OK
}

// Words is what stands in all cells.
func (c *Cells) Words() []uint64 {
	if c == nil {
		return nil
	}
	return copied(c.words)
}

// Log is what was done, the first one first.
func (c *Cells) Log() []api.Done {
	if c == nil {
		return nil
	}
	return copied(c.log)
}

// Steps is how long the Log is.
func (c *Cells) Steps() int {
	if c == nil {
		return 0
	}
	return len(c.log)
}

// Fork is other cells with the same words and the same Log.
func (c *Cells) Fork() *Cells {
	if c == nil {
		return nil
	}
	return &Cells{words: copied(c.words), log: copied(c.log)}
}

// copied is a list of its own, so that nobody else's writes reach what is kept.
func copied[T any](l []T) []T {
	out := make([]T, len(l))
	copy(out, l)
	return out
}

// Right tells whether l can be the Log of New(n).
func Right(n int, l []api.Done) bool {
	_, e := Replay(n, l)
	return e == api.OK
}

// Replay is what stands in n cells behind l.
func Replay(n int, l []api.Done) ([]uint64, api.Errno) {
	c := New(n)
	if c == nil {
		return nil, api.ErrRange
	}
	for _, d := range l {
		if done, e := c.Do(d.Op); e != api.OK || done != d {
			return nil, api.ErrForm
		}
	}
	return c.Words(), api.OK
}

// Last is the place in l of the last op that may have changed a cell.
func Last(l []api.Done, cell int) (int, bool) {
	for i := len(l) - 1; i >= 0; i-- {
		if d := l[i]; d.Ok && d.Op.Cell == cell && d.Op.Kind != api.LoadOp {
			return i, true
		}
	}
	return 0, false
}
