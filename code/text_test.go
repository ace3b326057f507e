package code

import (
	"fmt"
	"strings"
	"testing"

	"rowlock/api"
)

// parses holds Parse of a text against an instruction.
func parses(t *testing.T, s string, want api.Ins) {
	t.Helper()
	if i, errno := Parse(s); errno != api.OK || i != want {
		t.Errorf("Parse(%q) is %+v, %d, not %+v", s, i, errno, want)
	}
}

// noText holds Parse of a text against ErrForm.
func noText(t *testing.T, s string) {
	t.Helper()
	if i, errno := Parse(s); errno != api.ErrForm || i != (api.Ins{}) {
		t.Errorf("Parse(%q) is %+v, %d", s, i, errno)
	}
}

// textOf is an instruction as text, as the document says it.
func textOf(r row, i api.Ins) string {
	switch {
	case r.arg():
		return fmt.Sprintf("%s %d", r.word, i.Arg)
	case r.val:
		return fmt.Sprintf("%s %016x", r.word, uint64(i.Val))
	}
	return r.word
}

func TestWord(t *testing.T) {
	for _, r := range table {
		if w := Word(r.op); w != r.word {
			t.Errorf("Word(%d) is %q, not %q", r.op, w, r.word)
		}
		if o, ok := ReadWord(r.word); o != r.op || !ok {
			t.Errorf("ReadWord(%q) is %d, %v", r.word, o, ok)
		}
	}
	for _, o := range noOps() {
		if w := Word(o); w != "" {
			t.Errorf("Word(%d) is %q", o, w)
		}
	}
}

// TestNoWord: texts that are no word, among them names of operations that are not their words.
func TestNoWord(t *testing.T) {
	no := []string{"", " ", "foo", "setlocal", "ifzero", "SetLocal", "or", "else ", " else", "nop\n", "ge", "gett", "get 3", "0", "\xff", "get\xff", "\xffget", "ｇet", "gét", "\x00", strings.Repeat("nop", 1000)}
	for _, r := range table {
		no = append(no, strings.ToUpper(r.word), strings.ToUpper(r.word[:1])+r.word[1:], r.word+r.word, r.word+" ", " "+r.word, r.word+"\x00", r.word[1:]+"_")
	}
	for _, s := range no {
		if o, ok := ReadWord(s); o != 0 || ok {
			t.Errorf("ReadWord(%q) is %d, %v", s, o, ok)
		}
		noText(t, s+" 1")
	}
}

// TestPrint: each right instruction as text, there and back; of those that are not right none.
func TestPrint(t *testing.T) {
	for _, r := range table {
		for _, i := range r.rights() {
			want := textOf(r, i)
			if s, errno := Print(i); s != want || errno != api.OK {
				t.Errorf("Print(%+v) is %q, %d, not %q", i, s, errno, want)
			}
			parses(t, want, i)
		}
	}
	for _, i := range allWrongs() {
		if s, errno := Print(i); s != "" || errno != api.ErrForm {
			t.Errorf("Print(%+v) is %q, %d", i, s, errno)
		}
	}
}

func TestTexts(t *testing.T) {
	rows := []struct {
		s    string
		want api.Ins
	}{
		{"nop", api.Ins{}},
		{"get 3", api.Ins{Op: api.Get, Arg: 3}},
		{"get 0", api.Ins{Op: api.Get}},
		{"set 3", api.Ins{Op: api.SetLocal, Arg: 3}},
		{"zero 63", api.Ins{Op: api.IfZero, Arg: 63}},
		{"push 3ff0000000000000", api.Ins{Op: api.Push, Val: api.One}},
		{"push 0000000000000000", api.Ins{Op: api.Push}},
		{"push 8000000000000000", api.Ins{Op: api.Push, Val: api.NegZero}},
		{"push 7ff8000000000000", api.Ins{Op: api.Push, Val: api.NaN}},
		{"halt", api.Ins{Op: api.Halt}},
	}
	for _, r := range rows {
		parses(t, r.s, r.want)
		if s, errno := Print(r.want); s != r.s || errno != api.OK {
			t.Errorf("Print(%+v) is %q, %d", r.want, s, errno)
		}
	}
}

// TestParseArgs: texts that are no Arg, of every operation that has one.
func TestParseArgs(t *testing.T) {
	no := []string{
		"", " ", "  ", "00", "01", "03", "003", "-0", "-1", "+0", "+1", "+", "-", "1 ", " 1", "1 1", "1 0", "64", "99", "100", "127", "128", "255", "256", "257",
		"4294967296", "4294967297", "9223372036854775807", "9223372036854775808", "18446744073709551615", "18446744073709551616", "18446744073709551617",
		strings.Repeat("9", 400), strings.Repeat("0", 400), strings.Repeat("0", 400) + "1", "1_0", "0x1", "0b1", "1e0", "1.0", "a", "3a", "a3", "1\n", "\n1", "\t1", "1\x00", "1\xff", "\xff", "\xff1", "\xc0\xb1", "٣", "１", "²", "/", ":", "1/", "1:", "0/", "0:",
	}
	for _, r := range table {
		if !r.arg() {
			continue
		}
		noText(t, r.word)
		for _, a := range no {
			noText(t, r.word+" "+a)
		}
		for a := r.highest + 1; a < 300; a++ {
			noText(t, fmt.Sprint(r.word, " ", a))
		}
		noText(t, r.word+" 3ff0000000000000")
		noText(t, r.word+"\t1")
		noText(t, r.word+"\u00a01")
	}
}

// TestParseVals: texts that are no Val.
func TestParseVals(t *testing.T) {
	no := []string{
		"", " ", "0", "1", "3ff000000000000", "3ff00000000000000", "03ff0000000000000", "3FF0000000000000", "3ff000000000000A", "x3ff0000000000000", "0x3ff0000000000000",
		" 3ff0000000000000", "3ff0000000000000 ", "3ff0000000000000 1", "3ff0 000000000000", "+3ff000000000000", "-3ff000000000000", "3ff000000000000g", "3ff00000_0000000", "3ff000000000000\xff", "３ff0000000000000", "3ff0000000000000\n", "\xff\xff\xff\xff\xff\xff\xff\xff\xff\xff\xff\xff\xff\xff\xff\xff",
	}
	noText(t, "push")
	for _, v := range no {
		noText(t, "push "+v)
	}
	for _, v := range wrongVals {
		noText(t, fmt.Sprintf("push %016x", uint64(v)))
	}
	noText(t, "push\t3ff0000000000000")
}

// TestParseBare: an operation that has nothing stands alone.
func TestParseBare(t *testing.T) {
	for _, r := range table {
		if r.arg() || r.val {
			continue
		}
		for _, behind := range []string{" ", "  ", " 0", " 1", " 00", " 3ff0000000000000", " " + r.word, "\n", "\t", "\x00", "\xff", "0"} {
			noText(t, r.word+behind)
		}
	}
}

// TestParseAround: a blank ahead, behind, or two of them, capital letters, and signs that are no UTF-8, of each text.
func TestParseAround(t *testing.T) {
	for _, r := range table {
		for _, i := range r.rights() {
			s := textOf(r, i)
			for _, wrong := range []string{" " + s, s + " ", " " + s + " ", strings.ToUpper(s), strings.ToUpper(s[:1]) + s[1:], s + "\n", "\n" + s, "\ufeff" + s, "\xff" + s, s + "\xff", s + "\x80", s + ";", "0" + s} {
				noText(t, wrong)
			}
			if strings.Contains(s, " ") {
				noText(t, strings.Replace(s, " ", "  ", 1))
				noText(t, strings.Replace(s, " ", "", 1))
				noText(t, strings.Replace(s, " ", "\xa0", 1))
				noText(t, strings.Replace(s, " ", " 0", 1))
				noText(t, strings.Replace(s, " ", " +", 1))
				noText(t, strings.Replace(s, " ", " -", 1))
			}
		}
	}
	noText(t, "")
	noText(t, " ")
	noText(t, strings.Repeat(" ", 1000))
}

// TestTextsDrawn: P14.3 over drawn instructions; and over drawn texts: those that are read at all are printed again as they were.
func TestTextsDrawn(t *testing.T) {
	const signs = "0123456789 abcdefghijklmnopqrstuvwxyz-+\xffA"
	read := 0
	for seed := range uint64(6000) {
		draw := numbers(seed)
		i := drawnIns(draw)
		s, errno := Print(i)
		if errno != api.OK {
			t.Fatalf("Print(%+v) is %d", i, errno)
		}
		parses(t, s, i)
		changed := []byte(s)
		changed[draw(len(changed))] = signs[draw(len(signs))]
		j, errno := Parse(string(changed))
		if errno != api.OK {
			noText(t, string(changed))
			continue
		}
		read++
		if again, errno := Print(j); again != string(changed) || errno != api.OK {
			t.Errorf("%q is read as %+v, and printed as %q", changed, j, again)
		}
	}
	if read < 100 {
		t.Errorf("just %d drawn texts were read", read)
	}
}

// TestTextsUnlike: unlike ones have unlike texts.
func TestTextsUnlike(t *testing.T) {
	of := make(map[string]api.Ins)
	for _, i := range allRights() {
		s, _ := Print(i)
		if j, ok := of[s]; ok {
			t.Errorf("%+v and %+v are %q", i, j, s)
		}
		of[s] = i
	}
}
