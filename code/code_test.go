package code

import (
	"math"
	"testing"

	"rowlock/api"
)

// row is what the document says of an operation: highest is that of Args, -1, if it has none.
type row struct {
	op           api.OpCode
	word         string
	highest      int
	val          bool
	pops, pushes int
}

// table is all operations, in their order.
var table = []row{
	{api.Nop, "nop", -1, false, 0, 0},
	{api.Push, "push", -1, true, 0, 1},
	{api.Local, "local", 3, false, 0, 1},
	{api.SetLocal, "set", 3, false, 1, 0},
	{api.Get, "get", 11, false, 0, 1},
	{api.Put, "put", 11, false, 1, 0},
	{api.GetAt, "getat", 11, false, 1, 1},
	{api.PutAt, "putat", 11, false, 2, 0},
	{api.Add, "add", -1, false, 2, 1},
	{api.Sub, "sub", -1, false, 2, 1},
	{api.Mul, "mul", -1, false, 2, 1},
	{api.Div, "div", -1, false, 2, 1},
	{api.Neg, "neg", -1, false, 1, 1},
	{api.Less, "less", -1, false, 2, 1},
	{api.Same, "same", -1, false, 2, 1},
	{api.Not, "not", -1, false, 1, 1},
	{api.Dup, "dup", -1, false, 1, 2},
	{api.Pop, "pop", -1, false, 1, 0},
	{api.Swap, "swap", -1, false, 2, 2},
	{api.Jump, "jump", 63, false, 0, 0},
	{api.IfZero, "zero", 63, false, 1, 0},
	{api.Atomic, "atomic", 63, false, 0, 0},
	{api.End, "end", -1, false, 0, 0},
	{api.OrElse, "orelse", 63, false, 0, 0},
	{api.Else, "else", 63, false, 0, 0},
	{api.EndOr, "endor", -1, false, 0, 0},
	{api.Retry, "retry", -1, false, 0, 0},
	{api.Out, "out", -1, false, 1, 0},
	{api.Halt, "halt", -1, false, 0, 0},
}

// noOps are operations that there are not.
func noOps() []api.OpCode {
	var l []api.OpCode
	for o := int(api.LastOp) + 1; o < 256; o++ {
		l = append(l, api.OpCode(o))
	}
	return l
}

// rightVals are values of each class, and their edges; wrongVals are bits that are not right.
var (
	rightVals = []api.Val{0, api.NegZero, api.One, 0xbff0000000000000, 1, 0x8000000000000001, 0x0123456789abcdef, 0xfedcba9876543210, 0x7fefffffffffffff, 0xffefffffffffffff, api.Infinity, 0xfff0000000000000, api.NaN}
	wrongVals = []api.Val{0x7ff0000000000001, 0x7ff7ffffffffffff, 0x7ff8000000000001, 0x7fffffffffffffff, 0xfff0000000000001, 0xfff8000000000000, 0xffffffffffffffff}
)

// args are Args at all edges.
var args = []int{math.MinInt, -256, -64, -1, 0, 1, 2, 3, 4, 5, 10, 11, 12, 13, 62, 63, 64, 65, 255, 256, 257, 1 << 32, math.MaxInt}

func (r row) arg() bool { return r.highest >= 0 }

// rights are right instructions of an operation: all Args, or rightVals.
func (r row) rights() []api.Ins {
	var l []api.Ins
	switch {
	case r.val:
		for _, v := range rightVals {
			l = append(l, api.Ins{Op: r.op, Val: v})
		}
	case r.arg():
		for a := range r.highest + 1 {
			l = append(l, api.Ins{Op: r.op, Arg: a})
		}
	default:
		l = append(l, api.Ins{Op: r.op})
	}
	return l
}

// wrongs are instructions of an operation that are not right.
func (r row) wrongs() []api.Ins {
	var l []api.Ins
	for _, a := range args {
		if a < 0 || a > max(r.highest, 0) {
			l = append(l, api.Ins{Op: r.op, Arg: a})
		}
		if r.arg() && a > 0 && a <= r.highest {
			l = append(l, api.Ins{Op: r.op, Arg: a, Val: api.One}, api.Ins{Op: r.op, Arg: a, Val: api.NegZero})
		}
	}
	for _, v := range wrongVals {
		l = append(l, api.Ins{Op: r.op, Val: v})
	}
	for _, v := range rightVals[1:] {
		if !r.val {
			l = append(l, api.Ins{Op: r.op, Val: v})
		} else {
			l = append(l, api.Ins{Op: r.op, Val: v, Arg: 1}, api.Ins{Op: r.op, Val: v, Arg: -1})
		}
	}
	return l
}

// allRights are right instructions of all operations.
func allRights() []api.Ins {
	var l []api.Ins
	for _, r := range table {
		l = append(l, r.rights()...)
	}
	return l
}

// allWrongs are those that are not right, of operations that there are not, too.
func allWrongs() []api.Ins {
	var l []api.Ins
	for _, r := range table {
		l = append(l, r.wrongs()...)
	}
	for _, o := range noOps() {
		l = append(l, api.Ins{Op: o}, api.Ins{Op: o, Arg: 1}, api.Ins{Op: o, Val: api.One})
	}
	return l
}

// TestTable: the table has all operations, one each, at their places.
func TestTable(t *testing.T) {
	if len(table) != int(api.LastOp)+1 {
		t.Fatalf("there are %d", len(table))
	}
	for at, r := range table {
		if int(r.op) != at {
			t.Errorf("at %d stands %d", at, r.op)
		}
	}
}

func TestRight(t *testing.T) {
	for _, i := range allRights() {
		if !Right(i) {
			t.Errorf("%+v is not right", i)
		}
	}
	for _, i := range allWrongs() {
		if Right(i) {
			t.Errorf("%+v is right", i)
		}
	}
}

// TestRightCrossed: every Arg with every value, of each operation.
func TestRightCrossed(t *testing.T) {
	right := make(map[api.Ins]int)
	for _, i := range allRights() {
		right[i] = 1
	}
	for o := range 256 {
		for _, a := range args {
			for _, v := range append(wrongVals, rightVals...) {
				i := api.Ins{Op: api.OpCode(o), Arg: a, Val: v}
				if want := right[i] == 1; Right(i) != want {
					t.Errorf("Right(%+v) is not %v", i, want)
				}
			}
		}
	}
}

func TestUses(t *testing.T) {
	for _, r := range table {
		if arg, val := Uses(r.op); arg != r.arg() || val != r.val {
			t.Errorf("%s has %v, %v", r.word, arg, val)
		}
	}
	for _, o := range noOps() {
		if arg, val := Uses(o); arg || val {
			t.Errorf("%d has %v, %v", o, arg, val)
		}
	}
}

func TestEffect(t *testing.T) {
	for _, r := range table {
		if pops, pushes := Effect(r.op); pops != r.pops || pushes != r.pushes {
			t.Errorf("%s pops %d, pushes %d", r.word, pops, pushes)
		}
	}
	for _, o := range noOps() {
		if pops, pushes := Effect(o); pops != 0 || pushes != 0 {
			t.Errorf("%d pops %d, pushes %d", o, pops, pushes)
		}
	}
}
