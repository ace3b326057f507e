package asm

import (
	"fmt"
	"slices"
	"strings"
	"testing"

	"rowlock/api"
	"rowlock/code"
)

// drawnIns is an instruction that is no bracket and no jump.
func drawnIns(draw func(int) int) api.Ins {
	for {
		i := api.Ins{Op: api.OpCode(draw(int(api.LastOp) + 1))}
		arg, val := code.Uses(i.Op)
		if arg {
			i.Arg = draw(12)
		}
		if val {
			i.Val = []api.Val{0, api.One, api.NaN, api.NegZero, 0xc08f400000000000, api.Val(draw(1 << 30))}[draw(6)]
		}
		if code.Right(i) && (i.Op < api.Jump || i.Op > api.EndOr) {
			return i
		}
	}
}

// drawnPart adds some instructions, brackets as they may stand.
func drawnPart(draw func(int) int, l []api.Ins, inside bool, arms int) []api.Ins {
	for range draw(5) {
		switch {
		case draw(3) > 0:
			l = append(l, drawnIns(draw))
		case draw(2) == 0:
			l = append(l, ins([]api.OpCode{api.Jump, api.IfZero}[draw(2)], 0))
		case !inside:
			at := len(l)
			l = append(drawnPart(draw, append(l, ins(api.Atomic, 0)), true, 0), ins(api.End, 0))
			l[at].Arg = len(l) - 1
		case arms < api.MaxDepth:
			left := len(l)
			l = append(drawnPart(draw, append(l, ins(api.OrElse, 0)), true, arms+1), ins(api.Else, 0))
			right := len(l) - 1
			l = append(drawnPart(draw, l, true, arms+1), ins(api.EndOr, 0))
			l[left].Arg, l[right].Arg = right, len(l)-1
		}
	}
	return l
}

// drawnCode is a code that can be told as text.
func drawnCode(draw func(int) int) []api.Ins {
	for {
		var l []api.Ins
		for range draw(6) {
			l = drawnPart(draw, l, false, 0)
		}
		for at := range l {
			if l[at].Op == api.Jump || l[at].Op == api.IfZero {
				l[at].Arg = draw(len(l))
			}
		}
		if len(l) <= api.MaxCode {
			return l
		}
	}
}

// plainText is what Disassemble of a right code should be.
func plainText(l []api.Ins) string {
	const letters = "abcdefghij"
	label := func(at int) string {
		s := "l"
		for _, digit := range fmt.Sprintf("%02d", at) {
			s += letters[digit-'0' : digit-'0'+1]
		}
		return s
	}
	text := ""
	for at, i := range l {
		for _, j := range l {
			if (j.Op == api.Jump || j.Op == api.IfZero) && j.Arg == at {
				text += label(at) + ":\n"
				break
			}
		}
		text += code.Word(i.Op)
		switch i.Op {
		case api.Push:
			text += fmt.Sprintf(" x%016x", uint64(i.Val))
		case api.Jump, api.IfZero:
			text += " " + label(i.Arg)
		case api.Local, api.SetLocal, api.Get, api.Put, api.GetAt, api.PutAt:
			text += fmt.Sprint(" ", i.Arg)
		}
		text += "\n"
	}
	return text
}

// TestThereAndBack: Assemble of Disassemble is the code.
func TestThereAndBack(t *testing.T) {
	draw := numbers(16)
	jumps, arms, full := 0, 0, 0
	for range 4000 {
		l := drawnCode(draw)
		kept := slices.Clone(l)
		s, errno := Disassemble(l)
		if errno != api.OK || s != plainText(l) {
			t.Fatalf("Disassemble(%v) is %q, %d", l, s, errno)
		}
		says(t, s, l...)
		if !slices.Equal(l, kept) {
			t.Fatalf("%v became %v", kept, l)
		}
		for _, i := range l {
			if i.Op == api.IfZero {
				jumps++
			}
			if i.Op == api.OrElse {
				arms++
			}
		}
		if len(l) > 40 {
			full++
		}
	}
	if jumps < 1000 || arms < 1000 || full < 20 {
		t.Errorf("just %d jumps, %d arms, %d long ones", jumps, arms, full)
	}
}

// decorated is a text with more remarks, blanks and empty lines; of each line of the text where it stands then.
func decorated(draw func(int) int, text string) (string, []int) {
	var b strings.Builder
	var at []int
	n := 0
	blanks := func(least int) string { return strings.Repeat(" ", least+draw(3)) }
	remarks := []string{"", "", "#", "# so", "#halt", " # a: # b", "#\xff", "# \tä"}
	for n0, line := range strings.Split(text, "\n") {
		for n0 > 0 || draw(2) == 0 {
			if draw(3) > 0 {
				break
			}
			b.WriteString(blanks(0) + remarks[draw(len(remarks))] + "\n")
			n++
		}
		words := strings.Split(line, " ")
		for w, word := range words {
			b.WriteString(blanks(min(w, 1)) + word)
		}
		b.WriteString(blanks(0) + remarks[draw(len(remarks))] + "\n")
		n++
		at = append(at, n)
	}
	return b.String(), at
}

// TestDecorated: remarks, blanks and empty lines change nothing; of a line that is wrong just where it stands.
func TestDecorated(t *testing.T) {
	draw := numbers(64)
	wrongs := 0
	for range 4000 {
		text := drawnText(draw)
		if draw(2) == 0 {
			text = plainText(drawnCode(draw))
		}
		l, line, errno := Assemble(text)
		more, at := decorated(draw, text)
		if line > 0 {
			line = at[line-1]
			wrongs++
		}
		if l2, line2, errno2 := Assemble(more); !slices.Equal(l, l2) || line != line2 || errno != errno2 {
			t.Fatalf("Assemble(%q) is %v, %d, %d, but Assemble(%q) is %v, %d, %d", text, l, line, errno, more, l2, line2, errno2)
		}
	}
	if wrongs < 500 {
		t.Errorf("just %d wrong ones", wrongs)
	}
}

// drawnText is a text of some lines, mostly of such that say something.
func drawnText(draw func(int) int) string {
	labels := []string{"a", "b", "c", "halt", "abcdefgh"}
	brackets := []string{"atomic", "end", "orelse", "else", "endor", "atomic", "end"}
	odd := []string{"foo", "push", "get 12", "push 00", "push -0", "jump", "jump A", "abcdefghi:", ":", "a :", "nop nop", "atomic 3", "\xff", "push x7ff8000000000001", "local 4", "\tnop"}
	var lines []string
	most := []int{3, 6, 12, 160}[draw(4)]
	wrongs := 1 + draw(40)
	for range draw(most + 1) {
		line := ""
		switch draw(7) {
		case 0:
			line = labels[draw(len(labels))] + ":"
		case 1:
			line = "jump " + labels[draw(len(labels))]
		case 2, 3:
			line = brackets[draw(len(brackets))]
		case 4:
			line = fmt.Sprint("push ", draw(21000)-10500)
		case 5:
			line, _ = code.Print(drawnIns(draw))
			line = strings.Replace(line, "push ", "push x", 1)
		}
		if draw(10*wrongs) == 0 {
			line = odd[draw(len(odd))]
		}
		lines = append(lines, line)
	}
	return strings.Join(lines, "\n")
}

// TestDrawnTexts: texts of all kinds, against the plain ones.
func TestDrawnTexts(t *testing.T) {
	draw := numbers(8)
	told := map[api.Errno]int{}
	for n := range 40000 {
		text := drawnText(draw)
		if n%4 == 0 {
			text = spoilt(draw, plainText(drawnCode(draw)))
		}
		want, line, errno := plainAssemble(text)
		if errno == api.OK {
			says(t, text, want...)
		} else {
			fails(t, text, line, errno)
		}
		if l := Lines(text); !slices.Equal(l, plainLines(text)) {
			t.Fatalf("Lines(%q) is %q", text, l)
		}
		told[errno]++
		if t.Failed() {
			return
		}
	}
	for _, errno := range []api.Errno{api.OK, api.ErrForm, api.ErrSpace, api.ErrExist, api.ErrNoent, api.ErrState} {
		if told[errno] < 100 {
			t.Errorf("error %d was told %d times", errno, told[errno])
		}
	}
}

// spoilt is a text with a line less, a line more than once, or a byte changed.
func spoilt(draw func(int) int, text string) string {
	lines := strings.Split(text, "\n")
	at := draw(len(lines))
	switch draw(5) {
	case 0:
		lines = slices.Delete(lines, at, at+1)
	case 1:
		lines = slices.Insert(lines, at, lines[draw(len(lines))])
	case 2:
		to := draw(len(lines))
		lines[at], lines[to] = lines[to], lines[at]
	case 3:
		b := []byte(text)
		if len(b) > 0 {
			b[draw(len(b))] = " \n#:axl019-\xff\x00"[draw(13)]
		}
		return string(b)
	}
	return strings.Join(lines, "\n")
}

// TestAnyBytes: texts of any bytes end, and are told of in one way only.
func TestAnyBytes(t *testing.T) {
	draw := numbers(5)
	for range 20000 {
		b := make([]byte, draw(30))
		for at := range b {
			b[at] = byte(draw(256))
			if draw(2) == 0 {
				b[at] = "nopush x\n#:a0"[draw(13)]
			}
		}
		text := string(b)
		l, line, errno := Assemble(text)
		want, wantLine, wantErrno := plainAssemble(text)
		if !slices.Equal(l, want) || line != wantLine || errno != wantErrno {
			t.Fatalf("Assemble(%q) is %v, %d, %d, not %v, %d, %d", text, l, line, errno, want, wantLine, wantErrno)
		}
		if got := Lines(text); !slices.Equal(got, plainLines(text)) {
			t.Fatalf("Lines(%q) is %q", text, got)
		}
	}
}

// TestLong: long texts end, too.
func TestLong(t *testing.T) {
	const n = 20000
	fails(t, strings.Repeat("nop\n", n), 65, api.ErrSpace)
	fails(t, strings.Repeat("nop\n", n)+"foo", n+1, api.ErrForm)
	fails(t, strings.Repeat("a:\n", n), 2, api.ErrExist)
	fails(t, strings.Repeat("a", n), 1, api.ErrForm)
	fails(t, strings.Repeat("\n", n)+"end", n+1, api.ErrState)
	says(t, strings.Repeat(" ", n)+"nop"+strings.Repeat(" ", n)+"#"+strings.Repeat("#", n), ins(api.Nop, 0))
	if l := Lines(strings.Repeat("\n", n)); len(l) != n+1 {
		t.Error(len(l))
	}
}

// TestApart: what is answered is the caller's, what is handed in stays, what is behind its end too.
func TestApart(t *testing.T) {
	const text = "a:\npush 1\natomic\nget 0\nend\nzero a"
	l, _, _ := Assemble(text)
	want := slices.Clone(l)
	for at := range l {
		l[at] = ins(api.Halt, 7)
	}
	says(t, text, want...)
	lines := Lines(text)
	lines[0] = "b"
	if again := Lines(text); again[0] != "a:" {
		t.Errorf("%q", again)
	}
	room := append(slices.Clone(want), ins(api.Jump, 63), ins(api.Get, 99))
	kept := slices.Clone(room)
	for n := range room {
		Disassemble(room[:n])
	}
	if !slices.Equal(room, kept) {
		t.Errorf("%v became %v", kept, room)
	}
}
