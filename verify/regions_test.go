package verify

import (
	"math"
	"slices"
	"strings"
	"testing"

	"rowlock/api"
)

// stands holds Regions and Inside against the places of the brackets that all stand in.
func stands(t *testing.T, l []api.Ins, want ...int) {
	t.Helper()
	if in, at, errno := Regions(l); errno != api.OK || at != 0 || !slices.Equal(in, want) {
		t.Errorf("Regions(%v) is %v, %d, %d, not %v", l, in, at, errno, want)
	}
	inside := Inside(l)
	if len(inside) != len(want) {
		t.Fatalf("Inside(%v) is %v", l, inside)
	}
	for at := range want {
		if inside[at] != (want[at] != -1) {
			t.Errorf("Inside(%v) is %v", l, inside)
		}
	}
}

// wrongAt holds Regions, Inside and Depths against a place that is wrong.
func wrongAt(t *testing.T, l []api.Ins, want int) {
	t.Helper()
	if in, at, errno := Regions(l); errno != api.ErrState || at != want || len(in) != 0 {
		t.Errorf("Regions(%v) is %v, %d, %d, not at %d", l, in, at, errno, want)
	}
	if d, at, errno := Depths(l); errno != api.ErrState || at != want || len(d) != 0 {
		t.Errorf("Depths(%v) is %v, %d, %d, not at %d", l, d, at, errno, want)
	}
	if inside := Inside(l); len(inside) != 0 {
		t.Errorf("Inside(%v) is %v", l, inside)
	}
}

func TestRegions(t *testing.T) {
	stands(t, nil)
	stands(t, []api.Ins{})
	stands(t, of("nop"), -1)
	stands(t, of("halt, out, retry, get 0"), -1, -1, -1, -1)
	stands(t, of("atomic 1, end"), -1, 0)
	stands(t, of("atomic 2, retry, end, halt"), -1, 0, 0, -1)
	stands(t, of("nop, atomic 3, nop, end, nop, atomic 6, end"), -1, -1, 1, 1, -1, -1, 5)
	stands(t, of("atomic 4, orelse 2, else 3, endor, end"), -1, 0, 1, 2, 0)
	stands(t, of("atomic 9, nop, orelse 4, nop, else 6, nop, endor, nop, nop, end, nop"), -1, 0, 0, 2, 2, 4, 4, 0, 0, 0, -1)
	stands(t, of("atomic 7, orelse 2, else 3, endor, orelse 5, else 6, endor, end"), -1, 0, 1, 2, 0, 4, 5, 0)
	stands(t, of("atomic 7, orelse 5, orelse 3, else 4, endor, else 6, endor, end"), -1, 0, 1, 2, 3, 1, 5, 0)
	stands(t, of("atomic 7, orelse 2, else 6, orelse 4, else 5, endor, endor, end"), -1, 0, 1, 2, 3, 4, 2, 0)
}

// TestOddInstructions: what is no operation, or has Args that it should not have, stands where it stands.
func TestOddInstructions(t *testing.T) {
	odd := []api.Ins{
		{Op: api.Atomic, Arg: 3, Val: 7}, {Op: api.LastOp + 1, Arg: math.MinInt}, {Op: 255, Arg: math.MaxInt, Val: 1}, {Op: api.End, Arg: -1}, {Op: api.Jump, Arg: 1000},
	}
	stands(t, odd, -1, 0, 0, 0, -1)
}

// nested is a block with so many arms within one another: each within a left one, or within a right one.
func nested(depth int, right bool) []api.Ins {
	l := of("end")
	for range depth {
		if right {
			l = slices.Concat(of("orelse, else"), l[:len(l)-1], of("endor, end"))
		} else {
			l = slices.Concat(of("orelse"), l[:len(l)-1], of("else, endor, end"))
		}
	}
	return paired(append(of("nop, atomic"), l...))
}

func TestArms(t *testing.T) {
	for _, right := range []bool{false, true} {
		for depth := range api.MaxDepth + 1 {
			l := nested(depth, right)
			if in, at, errno := Regions(l); errno != api.OK || at != 0 || len(in) != 3+3*depth {
				t.Errorf("%d arms: %v, %d, %d", depth, in, at, errno)
			}
		}
	}
	for _, more := range []int{1, 2, 5, 100} {
		wrongAt(t, nested(api.MaxDepth+more, false), 2+api.MaxDepth)
		wrongAt(t, nested(api.MaxDepth+more, true), 2+2*api.MaxDepth)
	}
	// Arms that stand behind one another are in none of one another.
	wide := paired(of("atomic, " + times(20, "orelse, else, endor") + "end"))
	if _, at, errno := Regions(wide); errno != api.OK || at != 0 {
		t.Errorf("%d, %d", at, errno)
	}
	deep := paired(of("atomic, orelse, orelse, orelse, else, orelse, else, orelse, else, endor, endor, endor, else, endor, else, endor, end"))
	wrongAt(t, deep, 7)
}

func TestAtomicWithin(t *testing.T) {
	wrongAt(t, paired(of("atomic, atomic, end, end")), 1)
	wrongAt(t, paired(of("atomic, nop, orelse, atomic, end, else, endor, end")), 3)
	wrongAt(t, paired(of("atomic, orelse, else, nop, atomic, end, endor, end")), 4)
	wrongAt(t, of("atomic 2, atomic 3, end, end"), 0)
	wrongAt(t, of("atomic 3, atomic 3, end, end"), 1)
}

func TestOrElseWithout(t *testing.T) {
	wrongAt(t, paired(of("orelse, else, endor")), 0)
	wrongAt(t, paired(of("nop, atomic, end, orelse, else, endor, halt")), 3)
	wrongAt(t, of("orelse 0"), 0)
}

// TestClosesNothing: an End, Else, EndOr that closes nothing, or something else, whatever is right around it.
func TestClosesNothing(t *testing.T) {
	for _, op := range []string{"end", "else", "endor"} {
		wrongAt(t, of(op), 0)
		wrongAt(t, of("nop, "+op), 1)
		wrongAt(t, of("atomic 1, end, "+op), 2)
		wrongAt(t, of(op+", atomic 2, end"), 0)
		wrongAt(t, of(op+", "+op), 0)
	}
	wrongAt(t, of("atomic 2, else 1, end"), 1)
	wrongAt(t, of("atomic 2, endor, end"), 1)
	wrongAt(t, of("atomic 5, orelse 3, end, else 4, endor, end"), 2)
	wrongAt(t, of("atomic 5, orelse 3, endor, else 4, endor, end"), 2)
	wrongAt(t, of("atomic 5, orelse 2, else 4, end, endor, end"), 3)
	wrongAt(t, of("atomic 5, orelse 2, else 4, else 4, endor, end"), 3)
	wrongAt(t, of("atomic 5, orelse 3, nop, else 4, endor, endor, end"), 0)
	wrongAt(t, of("atomic 6, orelse 3, nop, else 4, endor, endor, end"), 5)
}

func TestWrongArgs(t *testing.T) {
	right := of("nop, atomic 9, orelse 6, orelse 4, else 5, endor, else 7, endor, nop, end, halt")
	stands(t, right, -1, -1, 1, 2, 3, 4, 2, 6, 1, 1, -1)
	for at, i := range right {
		if _, opens := closedBy[i.Op]; !opens {
			continue
		}
		for _, arg := range []int{math.MinInt, -i.Arg, -1, 0, at, at + 1, i.Arg - 1, i.Arg, i.Arg + 1, len(right) - 1, len(right), 63, 64, i.Arg + 256, math.MaxInt} {
			l := slices.Clone(right)
			l[at].Arg = arg
			if arg != i.Arg {
				wrongAt(t, l, at)
			}
		}
	}
}

func TestOpenAtEnd(t *testing.T) {
	wrongAt(t, of("atomic 0"), 0)
	wrongAt(t, of("nop, atomic 1, nop"), 1)
	wrongAt(t, of("atomic 1, end, atomic 0, nop, nop"), 2)
	wrongAt(t, of("atomic 9, nop, orelse 9"), 2)
	wrongAt(t, of("atomic 9, orelse 2, else 9, nop"), 2)
	wrongAt(t, of("atomic 9, orelse 2, else 3, endor"), 0)
	wrongAt(t, of("atomic 9, orelse 6, orelse 3, else 4, endor, nop"), 1)
}

// TestSeveralWrong: the least place counts, wherever what makes it wrong stands; what is open only if there is nothing else.
func TestSeveralWrong(t *testing.T) {
	wrongAt(t, of("atomic 9, end, end"), 0)
	wrongAt(t, of("atomic 1, end, end, end"), 2)
	wrongAt(t, of("atomic 9, nop, endor, nop, end"), 0)
	wrongAt(t, of("atomic 4, nop, endor, nop, end"), 2)
	wrongAt(t, of("atomic 6, orelse 9, atomic 3, end, else 5, endor, end"), 1)
	wrongAt(t, of("atomic 6, orelse 4, atomic 3, end, else 5, endor, end"), 2)
	wrongAt(t, of("atomic 6, orelse 4, atomic 9, end, else 9, endor, end"), 2)
	wrongAt(t, of("atomic 9, orelse 2, else 9, endor, end"), 0)
	wrongAt(t, of("atomic 4, orelse 9, else 9, endor, end"), 1)
	wrongAt(t, of("atomic 4, orelse 2, else 9, endor, end"), 2)
	wrongAt(t, of("atomic 0, nop, end, orelse 0"), 0)
	// Open ones do not count beside others, not even with a lesser place.
	wrongAt(t, of("atomic 9, nop, else 0"), 2)
	wrongAt(t, of("atomic 9, orelse 9, end"), 2)
	wrongAt(t, of("atomic 9, atomic 9"), 1)
	wrongAt(t, of("atomic 9, orelse 9, nop, else 9, nop"), 1)
	wrongAt(t, of("atomic 1, end, end, atomic 9"), 2)
	wrongAt(t, of("atomic 7, end, atomic 9"), 0)
	// What is wrong closes nothing, and what stands where it may not opens all the same.
	wrongAt(t, of("atomic 9, orelse 3, end, else 4, endor, end"), 0)
	wrongAt(t, of("atomic 5, orelse 9, end, else 4, endor, end"), 1)
	wrongAt(t, of("atomic 2, atomic 2, end"), 1)
	wrongAt(t, of("atomic 9, else 2, endor, end"), 0)
	wrongAt(t, of("atomic 9, else 2, end"), 1)
}

func TestBlocks(t *testing.T) {
	rows := []struct {
		text string
		want []int
	}{
		{"", nil}, {"nop, halt", nil}, {"atomic 1, end", []int{0}}, {"nop, atomic 2, end, atomic 4, end, halt", []int{1, 3}},
		{"end, atomic 9, atomic 9, orelse 2, atomic -5", []int{1, 2, 4}}, {"orelse, else, endor", nil},
	}
	for _, r := range rows {
		if b := Blocks(of(r.text)); !slices.Equal(b, r.want) {
			t.Errorf("Blocks(%s) is %v", r.text, b)
		}
	}
	if b := Blocks(nil); len(b) != 0 {
		t.Errorf("Blocks(nil) is %v", b)
	}
	if b := Blocks(of(times(100, "atomic"))); len(b) != 100 || b[99] != 99 {
		t.Errorf("%v", b)
	}
}

// TestAllBrackets: all programs of up to six brackets, with the Args that they should have, and with each of them wrong.
func TestAllBrackets(t *testing.T) {
	ops := []api.OpCode{api.Nop, api.Atomic, api.End, api.OrElse, api.Else, api.EndOr}
	right := 0
	var grow func(l []api.Ins)
	grow = func(l []api.Ins) {
		p := paired(l)
		if likePlain(t, p) {
			right++
		}
		for at := range p {
			p[at].Arg += 1 + at%2
			likePlain(t, p)
			p[at].Arg -= 1 + at%2
		}
		if len(l) == 6 {
			return
		}
		for _, op := range ops {
			grow(append(slices.Clone(l), api.Ins{Op: op}))
		}
	}
	grow(nil)
	if right < 50 {
		t.Errorf("just %d of them are right", right)
	}
}

// likePlain holds Regions against plainRegions; it tells whether that is right.
func likePlain(t *testing.T, l []api.Ins) bool {
	t.Helper()
	in, at, errno := Regions(l)
	wantIn, wantAt, want := plainRegions(l)
	if errno != want || at != wantAt || !slices.Equal(in, wantIn) {
		t.Fatalf("Regions(%v) is %v, %d, %d, not %v, %d, %d", l, in, at, errno, wantIn, wantAt, want)
	}
	return want == api.OK
}

// TestLong: lists that are longer than any program end, too.
func TestLong(t *testing.T) {
	const n = 200000
	l := of(times(n, "nop") + "halt")
	if in, _, errno := Regions(l); errno != api.OK || len(in) != n+1 || in[n] != -1 {
		t.Error(len(in), errno)
	}
	if d, _, errno := Depths(l); errno != api.OK || len(d) != n+1 || d[n] != 0 {
		t.Error(len(d), errno)
	}
	wrongAt(t, of(strings.Repeat("atomic,", n)), 1)
}
