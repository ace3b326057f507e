package script

import (
	"fmt"
	"math"
	"slices"
	"strconv"
	"strings"
	"testing"

	"rowlock/api"
	"rowlock/value"
)

// plays holds the answers of lines against what stands behind their => ; a line without it has none.
func plays(t *testing.T, lines ...string) {
	t.Helper()
	var text, want []string
	for _, s := range lines {
		line, answer, has := strings.Cut(s, " => ")
		text = append(text, line)
		if has {
			want = append(want, answer)
		}
	}
	got := Run(strings.Join(text, "\n"))
	if all := strings.Join(want, "\n") + "\n"; got != all {
		t.Errorf("%q answer %q, not %q", text, got, all)
	}
}

// toldBy are the lines by which a program, its lines with ; between, is told, and made a thread's.
func toldBy(program string) []string {
	var l []string
	for _, line := range strings.Split(program, ";") {
		l = append(l, "text "+line+" => ok")
	}
	return append(l, "thread => ok")
}

// session are lines of a machine of one program over a heap, with more behind.
func session(heap, program string, more ...string) []string {
	return slices.Concat([]string{"heap " + heap + " => ok"}, toldBy(program), []string{"start tl2 greedy 2 => ok"}, more)
}

// TestExample: that of the chapter.
func TestExample(t *testing.T) {
	plays(t, "heap 0 => ok", "text halt => ok", "thread => ok", "start tl2 greedy 2 => ok", "step 0 => 3")
}

func TestWords(t *testing.T) {
	rows := []struct {
		line string
		want []string
	}{
		{"", nil}, {" ", nil}, {"     ", nil},
		{"a", []string{"a"}}, {" a", []string{"a"}}, {"a ", []string{"a"}}, {"   a   ", []string{"a"}},
		{"a b", []string{"a", "b"}}, {"a   b", []string{"a", "b"}}, {"  ab  cd e ", []string{"ab", "cd", "e"}},
		{"\t", []string{"\t"}}, {"a\tb\rc\vd", []string{"a\tb\rc\vd"}}, {"a\nb c\n", []string{"a\nb", "c\n"}},
		{"a\u00a0b\u2003c", []string{"a\u00a0b\u2003c"}}, {"ä €  \U0001f600", []string{"ä", "€", "\U0001f600"}},
		{"\xff", []string{"\xff"}}, {"\xff \xfe\xfd", []string{"\xff", "\xfe\xfd"}}, {"\xe2 \x82\xac", []string{"\xe2", "\x82\xac"}}, {" \xe2\x82 ", []string{"\xe2\x82"}}, {"a\x00 \x00", []string{"a\x00", "\x00"}},
		{"\ufffd \xff", []string{"\ufffd", "\xff"}},
	}
	for _, r := range rows {
		if got := Words(r.line); !slices.Equal(got, r.want) {
			t.Errorf("Words(%q) is %q, not %q", r.line, got, r.want)
		}
	}
}

// TestWordsDrawn: of any bytes the words are what stands between blanks.
func TestWordsDrawn(t *testing.T) {
	draw := numbersOf(261)
	for range 20000 {
		var b []byte
		for range draw(12) {
			b = append(b, "   ab\n\xff\xe2\x82\xac\x00"[draw(11)])
		}
		want := slices.DeleteFunc(strings.Split(string(b), " "), func(word string) bool { return word == "" })
		if got := Words(string(b)); !slices.Equal(got, want) {
			t.Fatalf("Words(%q) is %q, not %q", b, got, want)
		}
	}
}

func TestNumber(t *testing.T) {
	for n := range 10000 {
		if got, ok := Number(strconv.Itoa(n)); !ok || got != n {
			t.Fatalf("Number of %d is %d, %v", n, got, ok)
		}
	}
	for _, s := range []string{
		"", "00", "01", "0000", "0001", "0120", "010", "10000", "99999", "00000", "123456789", "18446744073709551617", strings.Repeat("1", 1000),
		"-1", "+1", "-0", "+0", "-", "+", " 1", "1 ", "1 2", "a", "1a", "a1", "0x1", "1e1", "1.0", "1_0", "١", "１", "²", "1\xff", "\xff", "\x00", "1\n", "/", ":", "1/", "9:",
	} {
		if n, ok := Number(s); ok || n != 0 {
			t.Errorf("Number(%q) is %d, %v", s, n, ok)
		}
	}
}

// TestNoWords: of no text, and of lines without words, there is no answer.
func TestNoWords(t *testing.T) {
	for _, text := range []string{"", "\n", " ", "\n\n   \n ", strings.Repeat("\n", api.MaxScript), strings.Repeat(" ", api.MaxScript)} {
		if got := Run(text); got != "" {
			t.Errorf("Run(%.20q) is %q", text, got)
		}
	}
	plays(t, "", "heap 1 => ok", "   ", "", "  vars   => none", "\t => word", "\r => word")
	if got := Run("heap 1\r\nheap 1\n"); got != "word\nok\n" {
		t.Errorf("it answers %q", got)
	}
}

// TestLong: just MaxScript bytes, and one more.
func TestLong(t *testing.T) {
	full := "vars" + strings.Repeat(" ", api.MaxScript-4)
	if got := Run(full); got != "none\n" {
		t.Errorf("MaxScript bytes answer %q", got)
	}
	for _, text := range []string{full + " ", full + "\n", " " + full, strings.Repeat("\n", api.MaxScript+1), strings.Repeat("vars\n", 3000), "heap 1\n" + strings.Repeat("ä", 5000)} {
		if got := Run(text); got != "long\n" {
			t.Errorf("%d bytes answer %q", len(text), got)
		}
	}
	if got := Run(strings.Repeat("ä", api.MaxScript/2)); got != "word\n" {
		t.Errorf("MaxScript bytes in half as many runes answer %q", got)
	}
}

// misfits are lines that there are not, or whose words do not fit.
var misfits = []string{
	"foo", "Heap 0", "HEAP", "heap:", "ok", "none", "-", "#", "# heap 0", "help", "texts halt", "quit", "\xff", "0",
	"text", "text a b", "text halt # so", "text push 1",
	"thread 0", "thread thread", "threads",
	"call", "call mutex", "call mutex 0", "call foo 0 0 lock", "call Mutex 0 0 lock", "call lock 0 0 lock", "call 0 0 lock", "call mutex lock", "call mutex x 0 lock", "call mutex 0 x lock", "call mutex 00 0 lock", "call mutex 0 -1 lock", "call mutex -1 0 lock", "call mutex 10000 0 lock", "call mutex 0 10000 lock",
	"call mutex 0 0 foo", "call mutex 0 0 lock foo", "call mutex 0 0 foo lock", "call mutex 0 0 Lock", "call mutex 0 0 lock:", "call mutex 0 0 lock:1", "call mutex 0 0 unlock:0", "call semaphore 0 0 up:1", "call semaphore 0 0 down:1", "call barrier 1 0 arrive:0", "call queue 1 0 take:0", "call mutex 0 0 0",
	"call queue 1 0 enter", "call queue 1 0 enter:", "call queue 1 0 enter:x", "call queue 1 0 enter:01", "call queue 1 0 enter:-1", "call queue 1 0 enter:10000", "call queue 1 0 enter:1:1", "call queue 1 0 enter: 1", "call queue 1 0 enter 1", "call queue 1 0 :1", "call queue 1 0 :", "call queue 1 0 enter:+1", "call queue 1 0 enter:x3ff0000000000000",
	"call barrier 1 0 leave", "call barrier 1 0 leave:", "call barrier 1 0 leave:a", "call barrier 1 0 leave:00", "call barrier 1 0 leaves:1", "call queue 1 0 entertake",
	"heap x", "heap 0 x", "heap x 0", "heap -1", "heap 01", "heap 10000", "heap 1.0", "heap 0,0", "heap x3ff0000000000000", "heap 0 0 0 0 0 0 0 0 0 0 0 0 0", "heap -0", "heap +1",
	"start", "start tl2", "start tl2 greedy", "start tl2 greedy 2 2", "start tl2 2 greedy", "start greedy tl2 2", "start foo greedy 2", "start TL2 greedy 2", "start tl2 foo 2", "start tl2 Greedy 2", "start tl2 greedy x", "start tl2 greedy 02", "start tl2 greedy -1", "start tl2 greedy 10000", "start norec karma x", "start tl3 karma 1",
	"step", "step x", "step -1", "step 00", "step 0 0", "step 10000", "steps 0", "step step",
	"run", "run 0", "run 0 x", "run x 1", "run 0 51", "run 9 51", "run 0 9999", "run 0 -1", "run 0 01", "run 0 1 1", "run 0 10000", "run 10000 1",
	"round", "round x", "round 51", "round 9999", "round 10000", "round -1", "round 00", "round 1 1", "rounds 1",
	"state", "state x", "state -1", "state 0 0", "state 10000", "state 00", "out", "out x", "out 0 1", "out -1", "out 10000",
	"vars 0", "vars x", "waiting 0", "waiting x", "counts 0", "counts x", "order 0", "order x", "vars vars",
}

// TestMisfits: each is word, ahead of a machine and behind it, and changes nothing.
func TestMisfits(t *testing.T) {
	ahead := session("5", "atomic;get_0;push_1;add;put_0;end;halt", "run 0 4 => 4", "text halt => ok", "thread => ok", "heap 7 => ok", "text get_ => ok")
	behind := []string{"vars => 5", "thread => error 3 1", "step 0 => 0", "counts => 1 0 0 1 1 0", "round 50 => 55", "vars => 6", "start norec polite 0 => ok", "vars => 7", "step 0 => 3", "step 1 => error 2"}
	for _, line := range misfits {
		plays(t, line+" => word")
		plays(t, "   "+strings.ReplaceAll(line, " ", "   ")+"  => word")
		plays(t, slices.Concat(ahead, []string{line + " => word"}, behind)...)
	}
}

// TestNone: what asks a machine, ahead of one; all other lines need none.
func TestNone(t *testing.T) {
	for _, line := range []string{"step 0", "step 9999", "run 0 0", "run 3 50", "round 0", "round 50", "state 0", "state 9", "out 0", "out 9999", "vars", "waiting", "counts", "order"} {
		plays(t, line+" => none")
		plays(t, "heap 0 => ok", "text halt => ok", "thread => ok", line+" => none", "start tl2 greedy 2 => ok", "state 0 => 0")
		plays(t, "start tl2 greedy 2 => nil", line+" => none")
	}
	plays(t, "text halt => ok", "thread => ok", "call mutex 0 0 lock => ok", "heap 1 => ok", "start norec karma 0 => ok")
}

// TestText: a line is told with _ for each blank, remarks and labels too; the program is empty behind a thread.
func TestText(t *testing.T) {
	plays(t, session("0", "a:;__push__1__#_so;out;_;#;push_-1;out;push_0;zero_a;halt", "run 0 9 => 9", "out 0 => 1 -1 1")...)
	plays(t, session("0", "__push___1__#_so_it_is;out;_;#;push_-1;out;halt", "run 0 9 => 9", "state 0 => 3", "out 0 => 1 -1")...)
	plays(t, "heap 0 => ok", "text nop => ok", "vars => none", "foo => word", "text halt => ok", "call mutex 0 0 => ok", "thread => ok", "start tl2 karma 1 => ok", "step 0 => 3", "step 1 => 0", "step 1 => 3", "step 2 => error 2")
	plays(t, "heap 0 => ok", "text halt => ok", "start tl2 greedy 1 => nil", "thread => ok", "start tl2 greedy 1 => ok", "step 0 => 3")
	plays(t, "heap 0 => ok", "text foo => ok", "thread => error 3 1", "text halt => ok", "thread => ok", "start tl2 greedy 1 => ok", "step 0 => 3", "step 1 => error 2")
	plays(t, "heap 0 => ok", "text halt => ok", "thread => ok", "thread => ok", "start tl2 greedy 1 => nil")
	plays(t, "text \xff => ok", "text ä => ok", "thread => error 3 1")
	plays(t, "text nop#\xff => ok", "text # => ok", "thread => ok")
}

// TestThreadErrors: each error of asm.Assemble, with its line.
func TestThreadErrors(t *testing.T) {
	fails := func(program, want string) {
		t.Helper()
		l := toldBy(program)
		l[len(l)-1] = "thread => " + want
		plays(t, append(l, "thread => ok", "thread => ok")...)
	}
	fails("foo", "error 3 1")
	fails("nop;nop;push_x;halt", "error 3 3")
	fails(strings.Repeat("nop;", 64)+"halt", "error 4 65")
	fails("a:;nop;a:", "error 6 3")
	fails("nop;jump_b", "error 5 2")
	fails("_;end", "error 8 2")
	fails("atomic;nop", "error 8 1")
	fails("end;foo", "error 3 2")
}

// TestCallErrors: each error of calls.Program, and none of a program that is right.
func TestCallErrors(t *testing.T) {
	plays(t,
		"call mutex 1 0 lock => error 3", "call semaphore 10 0 down => error 3", "call queue 0 0 take => error 3", "call queue 5 0 take => error 3", "call barrier 0 0 arrive => error 3", "call barrier 5 0 arrive => error 3",
		"call mutex 0 0 down => error 3", "call mutex 0 0 lock enter:1 => error 3", "call semaphore 1 0 lock => error 3", "call queue 1 0 leave:1 => error 3", "call barrier 1 0 enter:1 => error 3", "call mutex 9999 9999 => error 3",
		"call mutex 0 4 lock => error 2", "call mutex 0 9999 => error 2", "call queue 4 4 take => error 2",
		"call mutex 0 0 lock lock lock lock lock lock lock lock lock lock lock => error 4", "call queue 4 3 take take take => error 4",
		"call mutex 0 3 lock unlock => ok", "call semaphore 9 2 down up => ok", "call queue 4 1 enter:9999 take => ok", "call barrier 4 0 arrive leave:0 => ok",
		"start norec greedy 0 => nil", "call mutex 0 0 => ok", "heap 0 => ok", "start norec greedy 0 => ok", "step 0 => 3")
}

// TestFull: a further thread than MaxThreads, of either kind; a program that is wrong is told first.
func TestFull(t *testing.T) {
	halt, call := []string{"text halt => ok", "thread => ok"}, []string{"call mutex 0 0 lock => ok"}
	for _, four := range [][]string{slices.Concat(halt, halt, halt, halt), slices.Concat(call, call, call, call), slices.Concat(call, halt, halt, call)} {
		plays(t, slices.Concat(four, []string{"call mutex 0 0 lock => full", "text halt => ok", "thread => full", "thread => full", "call mutex 0 4 lock => error 2", "call mutex 0 0 foo => word", "text foo => ok", "thread => error 3 1",
			"heap 0 => ok", "start tl2 polite 8 => ok", "state 3 => 0", "run 3 1 => 1", "step 4 => error 2"}, four, []string{"call mutex 0 0 => full", "start norec polite 8 => ok", "round 50 => 200"})...)
	}
}

// TestHeap: just MaxTvars values, and one more; what is told last counts, and stays behind a start.
func TestHeap(t *testing.T) {
	full := strings.Repeat(" 9999", api.MaxTvars)
	plays(t, "heap"+full+" => ok", "heap"+full+" 0 => word", "text halt => ok", "thread => ok", "start tl2 karma 1 => ok", "vars =>"+full)
	plays(t, "heap 1 2 3 => ok", "heap 4 => ok", "heap 5 x => word", "text halt => ok", "thread => ok", "start norec karma 1 => ok", "vars => 4")
	plays(t, "heap 4 => ok", "heap => ok", "text halt => ok", "thread => ok", "start norec karma 1 => nil", "vars => none")
	add := toldBy("atomic;get_0;push_1;add;put_0;end;halt")
	plays(t, slices.Concat([]string{"heap 3 8 => ok"}, add, []string{"start norec greedy 0 => ok", "round 50 => 50", "vars => 4 8"}, add, []string{"start norec greedy 0 => ok", "vars => 3 8", "heap 0 => ok", "vars => 3 8", "round 50 => 50", "vars => 4 8"})...)
}

// TestStart: machines that can be, and such as cannot; the threads are forgotten either way, and a machine that cannot be is none.
func TestStart(t *testing.T) {
	for _, s := range []string{"tl2 polite 1 => ok", "tl2 karma 8 => ok", "norec greedy 0 => ok", "norec polite 9999 => ok", "tl2 greedy 0 => nil", "tl2 greedy 9 => nil", "tl2 greedy 9999 => nil"} {
		plays(t, "heap 0 => ok", "text halt => ok", "thread => ok", "start "+s, "start "+s[:strings.Index(s, " =>")]+" => nil", "step 0 => none")
	}
	plays(t, "text halt => ok", "thread => ok", "start tl2 greedy 1 => nil")
	plays(t, "heap 0 => ok", "start tl2 greedy 1 => nil")
	for _, program := range []string{"nop", "get_0;halt", "atomic;get_1;end;halt", "add;halt"} {
		plays(t, slices.Concat([]string{"heap 0 => ok", "text halt => ok", "thread => ok"}, toldBy(program), []string{"start norec greedy 1 => nil", "text halt => ok", "thread => ok", "start norec greedy 1 => ok", "step 0 => 3", "step 1 => error 2"})...)
	}
	plays(t, session("0", "halt", "step 0 => 3", "start foo greedy 1 => word", "state 0 => 3", "start tl2 greedy 9 => nil", "state 0 => none", "vars => none")...)
	plays(t, session("0", "halt", "step 0 => 3", "text halt => ok", "thread => ok", "state 0 => 3", "start tl2 greedy 1 => ok", "state 0 => 0", "order => -")...)
}

// TestSteps: step, run and round, of threads that there are and that there are not; N at 0, 50 and 51.
func TestSteps(t *testing.T) {
	loop := session("0", "a:;nop;jump_a")
	plays(t, slices.Concat(loop, []string{"step 0 => 0", "step 1 => error 2", "step 9999 => error 2", "round 0 => 1", "run 0 0 => 0", "round 0 => 1", "run 0 50 => 50", "round 0 => 51", "run 0 51 => word", "round 0 => 51",
		"run 1 50 => 0", "run 9999 1 => 0", "round 0 => 51", "round 50 => 101", "round 51 => word", "round 1 => 102", "state 0 => 0"})...)
	plays(t, slices.Concat([]string{"heap 0 => ok"}, toldBy("push_1;out;halt"), toldBy("push_2;out;halt"), toldBy("push_3;out;halt"), []string{"start norec polite 0 => ok",
		"round 2 => 6", "out 0 => 1", "out 1 => 2", "out 2 => 3", "state 0 => 0", "run 1 1 => 1", "state 0 => 0", "state 1 => 3", "state 2 => 0", "step 2 => 3", "round 50 => 158", "state 0 => 3"})...)
	// In a round each thread has a step in turn: both begin ahead of either's going on.
	add := toldBy("atomic;get_0;push_1;add;put_0;end;halt")
	plays(t, slices.Concat([]string{"heap 0 => ok"}, add, add, []string{"start tl2 greedy 1 => ok", "round 1 => 2", "counts => 2 0 0 2 0 0", "order => 0 1"})...)
}

// TestStates: each state's number; of a thread that is none that which machine.StateOf has of it, and nothing that it has put out.
func TestStates(t *testing.T) {
	plays(t, session("0", "atomic;get_0;zero_a;jump_b;a:;retry;b:;end;halt", "state 0 => 0", "waiting => -", "run 0 7 => 7", "state 0 => 0", "waiting => 0", "step 0 => 2", "state 0 => 2", "waiting => 0", "step 0 => 2", "vars => 0", "order => 0", "counts => 1 0 1 0 1 0")...)
	plays(t, session("0", "atomic;retry;end;halt", "run 0 2 => 2", "state 0 => 4", "step 0 => 4", "waiting => -", "out 0 => -")...)
	plays(t, session("0", "halt", "step 0 => 3", "state 0 => 3", "step 0 => 3", "state 1 => 0", "state 9999 => 0", "out 1 => -", "out 9999 => -", "waiting => -", "order => -", "counts => 0 0 0 0 0 0", "vars => 0")...)
	// A thread that backs: another one has the lock.
	put := toldBy("atomic;push_1;put_0;end;halt")
	plays(t, slices.Concat([]string{"heap 0 => ok"}, put, put, []string{"start tl2 polite 1 => ok", "run 0 7 => 7", "run 1 6 => 6", "state 1 => 0", "step 1 => 1", "state 1 => 1", "step 1 => 0"})...)
}

// TestValues: a value that is whole is told as its number, with its sign; any other one, and -0, by its bits.
func TestValues(t *testing.T) {
	for v, want := range map[api.Val]string{
		0: "0", api.One: "1", value.Of(-1): "-1", value.Of(9999): "9999", value.Of(-12345): "-12345", value.Of(1 << 53): "9007199254740992", value.Of(-1 << 53): "-9007199254740992",
		api.NegZero: "x8000000000000000", value.Of(0.5): "x3fe0000000000000", value.Of(-1.5): "xbff8000000000000", api.NaN: "x7ff8000000000000", api.Infinity: "x7ff0000000000000", api.Infinity | api.NegZero: "xfff0000000000000",
		value.Of(1<<53 + 2): "x4340000000000001", value.Of(math.MaxFloat64): "x7fefffffffffffff", 1: "x0000000000000001",
	} {
		push := fmt.Sprintf("push_x%016x", uint64(v))
		plays(t, session("0 7", push+";out;push_3;out;"+push+";out;atomic;"+push+";put_0;end;halt", "round 50 => 50", "out 0 => "+want+" 3 "+want, "vars => "+want+" 7")...)
	}
}

// TestCounts: attempts, commits, aborts, open ones, reads, writes, as far as they have come.
func TestCounts(t *testing.T) {
	add := "atomic;get_0;push_1;add;put_0;end;"
	plays(t, session("0", add+add+"halt", "counts => 0 0 0 0 0 0", "order => -", "step 0 => 0", "counts => 1 0 0 1 0 0", "order => 0", "run 0 4 => 4", "counts => 1 0 0 1 1 0", "run 0 5 => 5", "counts => 1 0 0 1 1 1", "run 0 50 => 50", "counts => 2 2 0 0 2 2", "order => 0 1", "vars => 2")...)
	two := toldBy(add + "halt")
	plays(t, slices.Concat([]string{"heap 0 => ok"}, two, two, []string{"start norec greedy 0 => ok", "run 0 5 => 5", "run 1 50 => 50", "state 1 => 3", "counts => 2 1 0 1 2 1", "order => 0 1", "run 0 50 => 50", "counts => 3 2 1 0 3 3", "order => 0 1 2", "vars => 2"})...)
}

// TestWhole: the examples of the whole document, as scripts.
func TestWhole(t *testing.T) {
	for _, start := range []string{"start tl2 polite 1", "start tl2 karma 8", "start tl2 greedy 3", "start norec polite 0", "start norec karma 0", "start norec greedy 0"} {
		start += " => ok"
		add := toldBy("atomic;get_0;push_1;add;put_0;end;halt")
		plays(t, slices.Concat([]string{"heap 0 => ok"}, add, add, []string{start, "round 50 => 100", "round 50 => 200", "vars => 2", "state 0 => 3", "state 1 => 3"})...)
		plays(t, "heap 0 0 0 0 => ok", "call queue 2 0 take => ok", "call queue 2 1 enter:7 => ok", start, "run 0 50 => 50", "state 0 => 2", "waiting => 0", "out 0 => -", "run 1 50 => 50", "state 0 => 0", "waiting => -", "run 0 50 => 50", "state 0 => 3", "out 0 => 7", "out 1 => 1", "vars => 0 1 7 0")
		take := toldBy("atomic;orelse;push_9;put_2;get_0;zero_a;jump_b;a:;retry;b:;push_0;put_0;else;get_1;put_2;push_0;put_1;endor;end;halt")
		plays(t, slices.Concat([]string{"heap 0 5 1 => ok"}, take, []string{start, "round 50 => 50", "state 0 => 3", "vars => 0 0 5", "heap 4 5 1 => ok"}, take, []string{start, "round 50 => 50", "vars => 0 5 9"})...)
	}
}

// TestObjects: each kind of object, called by several threads.
func TestObjects(t *testing.T) {
	for _, start := range []string{"start tl2 greedy 1 => ok", "start norec karma 1 => ok"} {
		plays(t, "heap 0 => ok", "call mutex 0 0 lock unlock unlock => ok", "call mutex 0 1 lock unlock => ok", start, "round 50 => 100", "round 50 => 200", "out 0 => 1 1 0", "out 1 => 1 1", "vars => 0")
		plays(t, "heap 1 => ok", "call semaphore 1 0 down up => ok", "call semaphore 1 3 down => ok", start, "round 50 => 100", "round 50 => 200", "out 0 => 1 1", "out 1 => 1", "vars => 0")
		plays(t, "heap 0 0 => ok", "call barrier 2 0 arrive leave:0 => ok", "call barrier 2 1 leave:0 arrive => ok", start, "round 50 => 100", "round 50 => 200", "out 0 => 0", "out 1 => -", "waiting => 1 0", "vars => 1 0")
	}
}

// TestDrawn: P26.1, P26.2, P26.3: over many drawn scripts the answers are as the chapter tells them; those of a beginning are theirs at first; lines that ask change nothing of the others' answers.
func TestDrawn(t *testing.T) {
	draw := numbersOf(26)
	tally := map[string]int{}
	for range 2500 {
		l := drawnScript(draw)
		text := strings.Join(l, "\n")
		got := Run(text)
		if want := modelRun(text); got != want {
			t.Fatalf("%q answers %q, not %q", text, got, want)
		}
		for _, answer := range strings.Split(got, "\n") {
			kind, _, _ := strings.Cut(answer, " ")
			tally[kind]++
		}
		if len(text) > api.MaxScript {
			continue
		}
		from := draw(len(l) + 1)
		if begin := Run(strings.Join(l[:from], "\n")); !strings.HasPrefix(got, begin) || from == len(l) && got != begin {
			t.Fatalf("the first %d lines of %q answer %q, all %q", from, l, begin, got)
		}
		asksChangeNothing(t, draw, l, got)
	}
	for _, kind := range []string{"ok", "nil", "word", "none", "error", "full", "-", "0", "1", "2", "3", "4", "50"} {
		if tally[kind] < 20 {
			t.Errorf("%q was answered %d times", kind, tally[kind])
		}
	}
}

// asksChangeNothing lays lines that ask between those of a script, and holds the others' answers against what they were.
func asksChangeNothing(t *testing.T, draw func(int) int, l []string, want string) {
	t.Helper()
	var more []string
	var asks []bool
	for _, line := range strings.Split(strings.Join(l, "\n"), "\n") {
		for range draw(3) {
			more, asks = append(more, drawnAsk(draw)), append(asks, true)
		}
		if len(Words(line)) > 0 {
			more, asks = append(more, line), append(asks, false)
		}
	}
	text := strings.Join(more, "\n")
	if len(text) > api.MaxScript {
		return
	}
	kept := ""
	for at, answer := range strings.SplitAfter(strings.TrimSuffix(Run(text), "\n"), "\n") {
		if !asks[at] {
			kept += strings.TrimSuffix(answer, "\n") + "\n"
		}
	}
	if kept != want {
		t.Fatalf("%q answers %q beside others, not %q", more, kept, want)
	}
}

// TestBytes: P1: of any bytes Run ends, and each line with words has one answer.
func TestBytes(t *testing.T) {
	draw := numbersOf(1)
	for range 3000 {
		b := make([]byte, draw(300))
		for i := range b {
			b[i] = byte(draw(256))
			if draw(4) == 0 {
				b[i] = " \n"[draw(2)]
			}
		}
		lines := 0
		for _, line := range strings.Split(string(b), "\n") {
			if strings.Trim(line, " ") != "" {
				lines++
			}
		}
		if got := Run(string(b)); strings.Count(got, "\n") != lines || got != modelRun(string(b)) {
			t.Fatalf("Run(%q) is %q", b, got)
		}
	}
}

// TestAgain: P6: nothing is kept between calls.
func TestAgain(t *testing.T) {
	text := "heap 1 2\ntext halt\nthread\ntext foo\nstart tl2 greedy 2\nstep 0"
	for range 3 {
		if got := Run(text); got != "ok\nok\nok\nok\nok\n3\n" {
			t.Errorf("it answers %q", got)
		}
		if got := Run("vars\nthread\nstart tl2 greedy 2"); got != "none\nok\nnil\n" {
			t.Errorf("behind it another one answers %q", got)
		}
	}
}
