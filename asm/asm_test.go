package asm

import (
	"fmt"
	"slices"
	"strings"
	"testing"

	"rowlock/api"
	"rowlock/code"
)

// ins is an instruction with an Arg.
func ins(o api.OpCode, arg int) api.Ins { return api.Ins{Op: o, Arg: arg} }

// push is a Push of bits.
func push(v api.Val) api.Ins { return api.Ins{Op: api.Push, Val: v} }

// says holds Assemble of a text against instructions.
func says(t *testing.T, text string, want ...api.Ins) {
	t.Helper()
	if l, line, errno := Assemble(text); errno != api.OK || line != 0 || !slices.Equal(l, want) {
		t.Errorf("Assemble(%q) is %v, %d, %d, not %v", text, l, line, errno, want)
	}
}

// fails holds Assemble of a text against a line and an error.
func fails(t *testing.T, text string, line int, why api.Errno) {
	t.Helper()
	if l, at, errno := Assemble(text); errno != why || at != line || len(l) != 0 {
		t.Errorf("Assemble(%q) is %v, %d, %d, not %d, %d", text, l, at, errno, line, why)
	}
}

func TestExample(t *testing.T) {
	want := []api.Ins{ins(api.Atomic, 2), ins(api.Get, 0), ins(api.End, 0), ins(api.Halt, 0)}
	says(t, "atomic\nget 0\nend\nhalt\n", want...)
	says(t, "atomic\nget 0\nend\nhalt", want...)
}

func TestLines(t *testing.T) {
	rows := []struct {
		text string
		want []string
	}{
		{"", []string{""}},
		{"\n", []string{"", ""}},
		{"\n\n\n", []string{"", "", "", ""}},
		{"a", []string{"a"}},
		{"a\n", []string{"a", ""}},
		{"\na", []string{"", "a"}},
		{"a\nb", []string{"a", "b"}},
		{"a\n\nb\n\n", []string{"a", "", "b", "", ""}},
		{"  a  b  \n   \n c", []string{"a  b", "", "c"}},
		{"a # b\n#\n # a\n#a#b\na#b # c", []string{"a", "", "", "", "a"}},
		{"a\\nb", []string{"a\\nb"}},
		{"\ta\t\n\r\n\u00a0a\v", []string{"\ta\t", "\r", "\u00a0a\v"}},
		{"foo: bar\n;x", []string{"foo: bar", ";x"}},
		{" \xff \n\xff\xfe # \xff\n\xe2\x82", []string{"\xff", "\xff\xfe", "\xe2\x82"}},
		{"ä ö\n€#€\n€", []string{"ä ö", "€", "€"}},
		{"\xe2\n\xe2#\xe2 ", []string{"\xe2", "\xe2"}},
	}
	for _, r := range rows {
		if l := Lines(r.text); !slices.Equal(l, r.want) {
			t.Errorf("Lines(%q) is %q, not %q", r.text, l, r.want)
		}
	}
}

func TestEmpty(t *testing.T) {
	for _, text := range []string{"", "\n", "\n\n\n", " ", "   \n  ", "#", "# halt", "  # foo\n#", "a:", "a:\nb:\n", "\n\na: # b"} {
		says(t, text)
	}
}

// TestWords: each operation that has nothing, and those whose Arg is found, alone; with anything behind they say nothing.
func TestWords(t *testing.T) {
	for o := api.Nop; o <= api.LastOp; o++ {
		word := code.Word(o)
		arg, val := code.Uses(o)
		if arg || val {
			if o != api.Atomic && o != api.OrElse && o != api.Else {
				fails(t, word, 1, api.ErrForm)
			}
			continue
		}
		for _, more := range []string{"0", "1", "a", "-1", "x", ":", word} {
			fails(t, word+" "+more, 1, api.ErrForm)
		}
		if o != api.End && o != api.EndOr {
			says(t, word, ins(o, 0))
		}
	}
	for _, word := range []string{"atomic", "orelse", "else"} {
		for _, more := range []string{"0", "1", "2", "63", "a", "end"} {
			fails(t, "atomic\norelse\nelse\nendor\nend\n"+word+" "+more, 6, api.ErrForm)
		}
	}
	for _, text := range []string{"foo", "NOP", "Nop", "nop.", "nopnop", "no", "nop nop", "\tnop", "nop\t", "nop\r", "nop\u00a0", "\u00a0nop", "ｎop", "\xff", "nop\xff", "\xffnop", "nop\x00", "0", "12", "-", ";", "// nop", "push,1", "ifzero a", "setlocal 0", "noop", "nop;", "nop \xff"} {
		fails(t, text, 1, api.ErrForm)
		fails(t, "nop\n\n"+text+"\nhalt", 3, api.ErrForm)
	}
}

func TestBlanks(t *testing.T) {
	want := []api.Ins{push(api.One), ins(api.SetLocal, 2), ins(api.IfZero, 0)}
	says(t, "a:\npush 1\nset 2\nzero a", want...)
	says(t, "   a:   \n  push    1  \n set  2\nzero         a ", want...)
	says(t, "\n\n# so\na:# so\n\n   # \npush 1#2\nset 2 # set 3\n\nzero a\n\n\n", want...)
	says(t, "a:\npush 1 ## push 2\nset 2#\n #nop\nzero a#b", want...)
	for _, text := range []string{"p ush 1", "push1", "push\t1", "push\n1", "pu#sh 1", "push #1", "set2", "a :", "a\n:", ": a", "a:nop", "a: nop", "a: b:", "a:b:", "a::", ":", "::", ":a"} {
		if _, line, errno := Assemble(text); errno != api.ErrForm || line == 0 {
			t.Errorf("Assemble(%q) is %d, %d", text, line, errno)
		}
	}
}

func TestLabels(t *testing.T) {
	says(t, "a:\njump a", ins(api.Jump, 0))
	says(t, "abcdefgh:\njump abcdefgh", ins(api.Jump, 0))
	says(t, "z:\nnop\nzero z", ins(api.Nop, 0), ins(api.IfZero, 0))
	says(t, "jump b\nnop\nb:\nhalt", ins(api.Jump, 2), ins(api.Nop, 0), ins(api.Halt, 0))
	says(t, "a:\nb:\n\nc:\nnop\njump a\njump b\nzero c", ins(api.Nop, 0), ins(api.Jump, 0), ins(api.Jump, 0), ins(api.IfZero, 0))
	says(t, "jump halt\nnop:\nend:\nhalt:\nhalt\njump nop", ins(api.Jump, 1), ins(api.Halt, 0), ins(api.Jump, 1))
	says(t, "push 0\na:\nzero a\nlast:\njump last", push(0), ins(api.IfZero, 1), ins(api.Jump, 2))
	says(t, "nop\na:", ins(api.Nop, 0))
	for _, label := range []string{"", "abcdefghi", "aaaaaaaaaaaaaaaa", "A", "aB", "a1", "1", "a_b", "a-b", "a.b", "ä", "\xff", "a\xff", "é", "a\x00", "`", "{", "ａ", "a:"} {
		fails(t, "nop\n"+label+":\nnop", 2, api.ErrForm)
		fails(t, "nop\njump "+label, 2, api.ErrForm)
		fails(t, "nop\nzero "+label+" # "+label, 2, api.ErrForm)
	}
	fails(t, "a:\njump", 2, api.ErrForm)
	fails(t, "a:\njump a a", 2, api.ErrForm)
	fails(t, "a:\njump 0", 2, api.ErrForm)
}

func TestLabelsTwice(t *testing.T) {
	fails(t, "a:\na:", 2, api.ErrExist)
	fails(t, "a:\nnop\nb:\n\nb:\na:\nnop", 5, api.ErrExist)
	fails(t, "a:\na:\na:", 2, api.ErrExist)
	fails(t, "b:\nnop\na:\nhalt\nb:\na:\njump c", 5, api.ErrExist)
	says(t, "a:\naa:\naaa:\nnop", ins(api.Nop, 0))
}

func TestLabelsNowhere(t *testing.T) {
	fails(t, "jump b", 1, api.ErrNoent)
	fails(t, "jump b\nb:", 1, api.ErrNoent)
	fails(t, "\n# so\nzero b # b:\nb:\n", 3, api.ErrNoent)
	fails(t, "nop\na:\njump a\njump b\njump c\nb:", 4, api.ErrNoent)
	fails(t, "nop\njump c\njump b\nb:", 2, api.ErrNoent)
	fails(t, "nop\njump b\njump c\nb:", 2, api.ErrNoent)
	fails(t, "a:\njump b\nb:\nc:", 2, api.ErrNoent)
	fails(t, "aa:\njump a", 2, api.ErrNoent)
	fails(t, strings.Repeat("nop\n", 63)+"jump a\na:", 64, api.ErrNoent)
}

func TestWholeNumbers(t *testing.T) {
	rows := map[string]api.Val{
		"0": 0, "1": api.One, "-1": 0xbff0000000000000, "2": 0x4000000000000000, "-2": 0xc000000000000000, "10": 0x4024000000000000,
		"9999": 0x40c3878000000000, "-9999": 0xc0c3878000000000, "1000": 0x408f400000000000,
	}
	for s, v := range rows {
		says(t, "push "+s, push(v))
	}
	for n := -9999; n <= 9999; n += 101 {
		want, _, _ := plainAssemble(fmt.Sprint("push ", n))
		says(t, fmt.Sprint("push ", n), want...)
	}
	no := []string{
		"-0", "00", "01", "-01", "-00", "007", "+0", "+1", "--1", "-", "+", "- 1", "10000", "-10000", "09999", "99999", "1e3", "1.0", ".5", "1_0", "0x1", "0b1", "1a", "a", "one", "1 2", "1,", "١", "１", "1\xff", "\xff", "²",
		"4294967296", "18446744073709551616", "18446744073709551617", "-9223372036854775808", strings.Repeat("9", 500), strings.Repeat("0", 500), "-" + strings.Repeat("1", 500), "/", ":", "1/", "1:",
	}
	for _, s := range no {
		fails(t, "push "+s, 1, api.ErrForm)
	}
}

func TestBits(t *testing.T) {
	for _, v := range []api.Val{0, 1, api.One, api.NegZero, api.NaN, api.Infinity, 0xfff0000000000000, 0x0123456789abcdef, 0xfedcba9876543210} {
		says(t, fmt.Sprintf("push x%016x", uint64(v)), push(v))
	}
	no := []string{
		"x", "x0", "x3ff000000000000", "x3ff00000000000000", "3ff0000000000000", "X3ff0000000000000", "x3FF0000000000000", "x3ff000000000000A", "x 3ff0000000000000", "0x3ff0000000000000", "xx3ff000000000000",
		"-x3ff0000000000000", "x-3ff000000000000", "x+3ff000000000000", "x3ff00000 00000000", "x3ff000000000000g", "x7ff8000000000001", "x7ff0000000000001", "xfff8000000000000", "xffffffffffffffff", "x3ff000000000000\xff", "x0x3ff00000000000", "x3ff0_00000000000",
	}
	for _, s := range no {
		fails(t, "push "+s, 1, api.ErrForm)
	}
}

func TestArgs(t *testing.T) {
	for _, o := range []api.OpCode{api.Local, api.SetLocal, api.Get, api.Put, api.GetAt, api.PutAt} {
		most := api.MaxTvars
		if o == api.Local || o == api.SetLocal {
			most = api.MaxLocals
		}
		for arg := range 70 {
			text := fmt.Sprint(code.Word(o), " ", arg)
			if arg < most {
				says(t, text, ins(o, arg))
			} else {
				fails(t, text, 1, api.ErrForm)
			}
		}
		for _, s := range []string{"00", "01", "03", "-0", "-1", "+1", "1 1", "a", "x", "1a", "", "99999999999999999999", "18446744073709551616", "x0000000000000000", "١", "1\xff", "1:"} {
			fails(t, code.Word(o)+" "+s, 1, api.ErrForm)
		}
	}
}

func TestRoom(t *testing.T) {
	full := strings.Repeat("nop\n", api.MaxCode)
	says(t, full, make([]api.Ins, api.MaxCode)...)
	says(t, full+"a:\n# nop\n\n", make([]api.Ins, api.MaxCode)...)
	fails(t, full+"nop", 65, api.ErrSpace)
	fails(t, full+"\n\na:\nnop\nnop", 68, api.ErrSpace)
	fails(t, strings.Repeat("\nnop", 100), 66, api.ErrSpace)
	says(t, "jump last\n"+strings.Repeat("nop\n", api.MaxCode-2)+"last:\nhalt", slices.Concat([]api.Ins{ins(api.Jump, 63)}, make([]api.Ins, 62), []api.Ins{ins(api.Halt, 0)})...)
	says(t, "atomic\n"+strings.Repeat("nop\n", api.MaxCode-2)+"end", slices.Concat([]api.Ins{ins(api.Atomic, 63)}, make([]api.Ins, 62), []api.Ins{ins(api.End, 0)})...)
}

func TestBrackets(t *testing.T) {
	says(t, "atomic\norelse\nretry\nelse\nnop\nendor\nend", ins(api.Atomic, 6), ins(api.OrElse, 3), ins(api.Retry, 0), ins(api.Else, 5), ins(api.Nop, 0), ins(api.EndOr, 0), ins(api.End, 0))
	says(t, "atomic\nend\natomic\nend", ins(api.Atomic, 1), ins(api.End, 0), ins(api.Atomic, 3), ins(api.End, 0))
	says(t, "atomic\norelse\norelse\nelse\nendor\nelse\norelse\nelse\nendor\nendor\nend",
		ins(api.Atomic, 10), ins(api.OrElse, 5), ins(api.OrElse, 3), ins(api.Else, 4), ins(api.EndOr, 0), ins(api.Else, 9), ins(api.OrElse, 7), ins(api.Else, 8), ins(api.EndOr, 0), ins(api.EndOr, 0), ins(api.End, 0))
	rows := []struct {
		text string
		line int
	}{
		{"end", 1}, {"else", 1}, {"endor", 1}, {"nop\n\nend", 3}, {"atomic\nend\nend", 3},
		{"atomic\nelse\nend", 2}, {"atomic\nendor\nend", 2}, {"atomic\norelse\nend", 3}, {"atomic\norelse\nendor", 3},
		{"atomic\norelse\nelse\nend", 4}, {"atomic\norelse\nelse\nelse\nendor\nend", 4},
		{"atomic", 1}, {"\natomic\n\nnop\n", 2}, {"atomic\nend\n\natomic", 4}, {"atomic\n\norelse", 3}, {"atomic\norelse\nelse", 3}, {"atomic\norelse\nelse\nendor", 1},
		{"atomic\natomic\nend\nend", 2}, {"orelse\nelse\nendor", 1}, {"atomic\nnop\norelse\natomic\nend\nelse\nendor\nend", 4},
		{"atomic\nnop\nelse", 3}, {"atomic\nend\nend\natomic", 3}, {"atomic\norelse\nend\nelse\nendor\nend\nend", 3},
		{"atomic # end\nnop", 1}, {"atomic\nend:\nnop", 1},
	}
	for _, r := range rows {
		fails(t, r.text, r.line, api.ErrState)
	}
	arms := func(n int) string {
		return "atomic\n" + strings.Repeat("orelse\n", n) + strings.Repeat("else\nendor\n", n) + "end"
	}
	if _, line, errno := Assemble(arms(api.MaxDepth)); line != 0 || errno != api.OK {
		t.Error(line, errno)
	}
	fails(t, arms(api.MaxDepth+1), 2+api.MaxDepth, api.ErrState)
}

// TestOrderOfErrors: what is named first is told, wherever its line stands; each row has one fault less than the one above it.
func TestOrderOfErrors(t *testing.T) {
	full := strings.Repeat("nop\n", 62)
	all := "end\njump b\na:\na:\n" + full
	fails(t, all+"nop\nfoo\nbar", 68, api.ErrForm)
	fails(t, all+"nop", 67, api.ErrSpace)
	fails(t, all, 4, api.ErrExist)
	fails(t, "end\njump b\na:\n", 2, api.ErrNoent)
	fails(t, "end\na:\njump a\n", 1, api.ErrState)
	says(t, "a:\njump a\n", ins(api.Jump, 0))
	fails(t, "foo\n"+full+full, 1, api.ErrForm)
	fails(t, full+full+"foo", 125, api.ErrForm)
	fails(t, "foo\nbar", 1, api.ErrForm)
	// A place behind the last instruction, and one that there is not, are one error: the first line counts.
	fails(t, "a:\na:\njump a", 2, api.ErrExist)
	fails(t, "jump a\na:\na:", 3, api.ErrExist)
}

func TestDisassemble(t *testing.T) {
	rows := []struct {
		l    []api.Ins
		want string
	}{
		{nil, ""},
		{[]api.Ins{}, ""},
		{[]api.Ins{ins(api.Halt, 0)}, "halt\n"},
		{[]api.Ins{push(0), push(api.One), push(api.NaN), push(api.NegZero)}, "push x0000000000000000\npush x3ff0000000000000\npush x7ff8000000000000\npush x8000000000000000\n"},
		{[]api.Ins{ins(api.Local, 3), ins(api.SetLocal, 0), ins(api.Get, 11), ins(api.Put, 10), ins(api.GetAt, 1), ins(api.PutAt, 2)}, "local 3\nset 0\nget 11\nput 10\ngetat 1\nputat 2\n"},
		{[]api.Ins{ins(api.Jump, 0)}, "laa:\njump laa\n"},
		{[]api.Ins{ins(api.Nop, 0), ins(api.IfZero, 0), ins(api.Jump, 0), ins(api.Jump, 3)}, "laa:\nnop\nzero laa\njump laa\nlad:\njump lad\n"},
		{[]api.Ins{ins(api.Atomic, 6), ins(api.OrElse, 3), ins(api.Retry, 0), ins(api.Else, 5), ins(api.Nop, 0), ins(api.EndOr, 0), ins(api.End, 0)}, "atomic\norelse\nretry\nelse\nnop\nendor\nend\n"},
		{slices.Concat([]api.Ins{ins(api.Jump, 12), ins(api.Jump, 63)}, make([]api.Ins, 62)), "jump lbc\njump lgd\n" + strings.Repeat("nop\n", 10) + "lbc:\n" + strings.Repeat("nop\n", 51) + "lgd:\nnop\n"},
		{slices.Concat(make([]api.Ins, 10), []api.Ins{ins(api.Jump, 9), ins(api.Jump, 10)}), strings.Repeat("nop\n", 9) + "laj:\nnop\nlba:\njump laj\njump lba\n"},
	}
	for _, r := range rows {
		if s, errno := Disassemble(r.l); s != r.want || errno != api.OK {
			t.Errorf("Disassemble(%v) is %q, %d, not %q", r.l, s, errno, r.want)
		}
	}
	for o := api.Nop; o <= api.LastOp; o++ {
		s, errno := Disassemble([]api.Ins{ins(o, 0)})
		arg, val := code.Uses(o)
		opens := o == api.Atomic || o == api.OrElse || o == api.Else
		if !arg && !val && o != api.End && o != api.EndOr && (s != code.Word(o)+"\n" || errno != api.OK) {
			t.Errorf("Disassemble of %s is %q, %d", code.Word(o), s, errno)
		}
		if (opens || o == api.End || o == api.EndOr) && (s != "" || errno != api.ErrState) {
			t.Errorf("Disassemble of %s is %q, %d", code.Word(o), s, errno)
		}
	}
}

// noText holds Disassemble against an error.
func noText(t *testing.T, l []api.Ins, why api.Errno) {
	t.Helper()
	if s, errno := Disassemble(l); s != "" || errno != why {
		t.Errorf("Disassemble(%v) is %q, %d, not %d", l, s, errno, why)
	}
}

func TestNoDisassemble(t *testing.T) {
	nops := make([]api.Ins, 1000)
	if s, errno := Disassemble(nops[:api.MaxCode]); errno != api.OK || s != strings.Repeat("nop\n", api.MaxCode) {
		t.Errorf("%q, %d", s, errno)
	}
	noText(t, nops[:api.MaxCode+1], api.ErrForm)
	noText(t, nops, api.ErrForm)
	for _, w := range []api.Ins{{Op: api.LastOp + 1}, {Op: 255}, ins(api.Nop, 1), {Op: api.Add, Val: 1}, ins(api.Local, 4), ins(api.Get, 12), ins(api.Get, -1), ins(api.Jump, 64), ins(api.Jump, -1), push(api.NaN + 1), ins(api.Atomic, 64), ins(api.IfZero, 1<<62)} {
		noText(t, []api.Ins{w}, api.ErrForm)
		noText(t, []api.Ins{ins(api.Halt, 0), ins(api.End, 0), ins(api.Jump, 9), w}, api.ErrForm)
	}
	for _, l := range [][]api.Ins{
		{ins(api.End, 0)}, {ins(api.Else, 0)}, {ins(api.EndOr, 0)}, {ins(api.Atomic, 0)}, {ins(api.Atomic, 1)},
		{ins(api.Atomic, 2), ins(api.End, 0)}, {ins(api.Atomic, 3), ins(api.Atomic, 2), ins(api.End, 0), ins(api.End, 0)}, {ins(api.OrElse, 1), ins(api.Else, 2), ins(api.EndOr, 0)},
		{ins(api.Jump, 1)}, {ins(api.Jump, 63)}, {ins(api.IfZero, 1)}, {ins(api.Nop, 0), ins(api.IfZero, 2)}, {ins(api.Halt, 0), ins(api.Jump, 0), ins(api.Jump, 3)},
	} {
		noText(t, l, api.ErrState)
	}
	for to := range 64 {
		l := append(slices.Clone(nops[:20]), ins(api.Jump, to))
		if _, errno := Disassemble(l); (errno == api.OK) != (to <= 20) {
			t.Errorf("a jump to %d is %d", to, errno)
		}
	}
}
