package script

import (
	"fmt"
	"regexp"
	"slices"
	"strconv"
	"strings"

	"rowlock/api"
	"rowlock/asm"
	"rowlock/calls"
	"rowlock/history"
	"rowlock/machine"
	"rowlock/value"
)

// numbersOf draws numbers below n, the same ones for the same seed.
func numbersOf(seed uint64) func(n int) int {
	return func(n int) int {
		seed = seed*6364136223846793005 + 1442695040888963407
		return int(seed >> 33 % uint64(n))
	}
}

const (
	digits = `(0|[1-9][0-9]{0,3})`
	times  = `(0|[1-9]|[1-4][0-9]|50)`
)

// The forms of lines, with one blank between their words.
var (
	textForm  = regexp.MustCompile(`^text ([^ ]+)$`)
	callForm  = regexp.MustCompile(`^call (mutex|semaphore|queue|barrier) ` + digits + ` ` + digits + `((?: (?:lock|unlock|down|up|take|arrive|(?:enter|leave):` + digits + `))*)$`)
	heapForm  = regexp.MustCompile(`^heap((?: ` + digits + `){0,12})$`)
	startForm = regexp.MustCompile(`^start (tl2|norec) (polite|karma|greedy) ` + digits + `$`)
	oneForm   = regexp.MustCompile(`^(step|state|out) ` + digits + `$`)
	runForm   = regexp.MustCompile(`^run ` + digits + ` ` + times + `$`)
	roundForm = regexp.MustCompile(`^round ` + times + `$`)
	bareForm  = regexp.MustCompile(`^(vars|waiting|counts|order)$`)
)

// The words of kinds, in the order of these.
var (
	objects  = []string{"", "mutex", "semaphore", "queue", "barrier"}
	callsAre = []string{"", "lock", "unlock", "down", "up", "enter", "take", "arrive", "leave"}
	engines  = []string{"", "tl2", "norec"}
	managers = []string{"", "polite", "karma", "greedy"}
)

// model is what a script's lines should have come to.
type model struct {
	program string
	threads [][]api.Ins
	heap    []api.Val
	m       *machine.Machine
}

func atoi(s string) int {
	n, _ := strconv.Atoi(s)
	return n
}

// number is a value of digits.
func number(s string) api.Val { return value.Of(float64(atoi(s))) }

// modelTold is how a value should be told.
func modelTold(v api.Val) string {
	for n := -20; n <= 10000; n++ {
		if v == value.Of(float64(n)) {
			return strconv.Itoa(n)
		}
	}
	return fmt.Sprintf("x%016x", uint64(v))
}

// listed is what fmt tells of a list, without brackets.
func listed[T any](l []T) string {
	if len(l) == 0 {
		return "-"
	}
	return strings.Trim(fmt.Sprint(l), "[]")
}

// modelVals is how values should be told.
func modelVals(l []api.Val) string {
	var told []string
	for _, v := range l {
		told = append(told, modelTold(v))
	}
	return listed(told)
}

// more is the answer of a thread more.
func (p *model) more(l []api.Ins) string {
	if len(p.threads) == 4 {
		return "full"
	}
	p.threads = append(p.threads, l)
	return "ok"
}

// call is the answer of a call's line.
func (p *model) call(m []string) string {
	who := atoi(m[3])
	var l []api.Call
	for _, word := range strings.Fields(m[4]) {
		name, n, has := strings.Cut(word, ":")
		c := api.Call{Kind: api.CallKind(slices.Index(callsAre, name)), Who: who}
		if has {
			c.Val = number(n)
		}
		l = append(l, c)
	}
	program, e := calls.Program(api.ObjectKind(slices.Index(objects, m[1])), atoi(m[2]), 0, who, l)
	if e != api.OK {
		return fmt.Sprint("error ", int(e))
	}
	return p.more(program)
}

// made is the answer of a line ahead of step; false, if it is none.
func (p *model) made(line string) (string, bool) {
	if m := textForm.FindStringSubmatch(line); m != nil {
		p.program += strings.Join(strings.Split(m[1], "_"), " ") + "\n"
		return "ok", true
	}
	if line == "thread" {
		l, at, e := asm.Assemble(p.program)
		p.program = ""
		if e != api.OK {
			return fmt.Sprintf("error %d %d", e, at), true
		}
		return p.more(l), true
	}
	if m := callForm.FindStringSubmatch(line); m != nil {
		return p.call(m), true
	}
	if m := heapForm.FindStringSubmatch(line); m != nil {
		p.heap = nil
		for _, n := range strings.Fields(m[1]) {
			p.heap = append(p.heap, number(n))
		}
		return "ok", true
	}
	if m := startForm.FindStringSubmatch(line); m != nil {
		p.m = machine.New(api.EngineKind(slices.Index(engines, m[1])), p.heap, atoi(m[3]), api.ManagerKind(slices.Index(managers, m[2])), p.threads...)
		p.threads = nil
		if p.m == nil {
			return "nil", true
		}
		return "ok", true
	}
	return "", false
}

// stepped is the answer of a line that lets threads go on, or asks about one; false, if it is none.
func (p *model) stepped(line string) (string, bool) {
	if m := oneForm.FindStringSubmatch(line); m != nil {
		if p.m == nil {
			return "none", true
		}
		th := atoi(m[2])
		switch m[1] {
		case "state":
			return fmt.Sprint(int(p.m.StateOf(th))), true
		case "out":
			return modelVals(p.m.Thread(th).Out), true
		}
		does, e := p.m.Step(th)
		if e != api.OK {
			return fmt.Sprint("error ", int(e)), true
		}
		return fmt.Sprint(int(does)), true
	}
	if m := runForm.FindStringSubmatch(line); m != nil {
		if p.m == nil {
			return "none", true
		}
		n := 0
		for range atoi(m[2]) {
			if _, e := p.m.Step(atoi(m[1])); e == api.OK {
				n++
			}
		}
		return fmt.Sprint(n), true
	}
	m := roundForm.FindStringSubmatch(line)
	if m == nil || p.m == nil {
		return "none", m != nil
	}
	for i := range atoi(m[1]) * p.m.Threads() {
		p.m.Step(i % p.m.Threads())
	}
	return fmt.Sprint(p.m.Time()), true
}

// counted is the answer of counts.
func (p *model) counted() string {
	l := p.m.Events()
	n := map[api.EventKind]int{}
	for _, e := range l {
		n[e.Kind]++
	}
	began, committed, aborted := n[api.Began], n[api.Committed], n[api.Aborted]
	if began != len(history.Attempts(l)) {
		panic("an attempt began twice")
	}
	return fmt.Sprint(began, committed, aborted, began-committed-aborted, n[api.Read], n[api.Wrote])
}

// answer is that of a line with words.
func (p *model) answer(words []string) string {
	line := strings.Join(words, " ")
	if s, ok := p.made(line); ok {
		return s
	}
	if s, ok := p.stepped(line); ok {
		return s
	}
	if !bareForm.MatchString(line) {
		return "word"
	}
	if p.m == nil {
		return "none"
	}
	switch line {
	case "vars":
		return modelVals(p.m.Heap())
	case "waiting":
		return listed(p.m.Waiting())
	case "counts":
		return p.counted()
	}
	return listed(p.m.Order())
}

// modelRun is what Run should be.
func modelRun(text string) string {
	if len(text) > 8192 {
		return "long\n"
	}
	answers := ""
	p := &model{}
	for _, line := range strings.Split(text, "\n") {
		words := slices.DeleteFunc(strings.Split(line, " "), func(word string) bool { return word == "" })
		if len(words) > 0 {
			answers += p.answer(words) + "\n"
		}
	}
	return answers
}

// programs are some whose lines scripts tell: they add, wait, try one thing or another, put out values of all classes, break.
var programs = []string{
	"halt",
	"atomic;get_0;push_1;add;put_0;end;halt",
	"a:;atomic;get_1;dup;put_0;end;out;jump_a",
	"atomic;get_0;zero_a;jump_b;a:;retry;b:;push_0;put_0;end;push_7;out;halt",
	"atomic;orelse;get_0;zero_a;push_0;put_0;push_1;jump_b;a:;retry;b:;else;push_2;endor;end;out;halt",
	"push_x8000000000000000;out;push_1;push_3;div;out;push_x7ff8000000000000;out;push_-12;out;halt",
	"atomic;push_x8000000000000000;put_1;push_1;push_0;div;put_0;end;halt",
	"a:;push_1;out;jump_a",
	"atomic;retry;end;halt",
	"a:;atomic;get_0;push_1;add;put_0;get_1;push_1;sub;put_1;end;jump_a",
}

// drawnText are lines that tell a program, now and then with one that is wrong.
func drawnText(draw func(int) int) []string {
	var l []string
	for _, line := range strings.Split(programs[draw(len(programs))], ";") {
		if draw(60) == 0 {
			line = []string{"foo", "push_", "nop", "end", "jump_c", "a:", "#_so", "___nop__", "\xff", "atomic", "get_11"}[draw(11)]
		}
		l = append(l, "text "+line)
	}
	return append(l, "thread")
}

// drawnCall is a line of a call.
func drawnCall(draw func(int) int) string {
	k := 1 + draw(4)
	words := []string{"call", objects[k], fmt.Sprint(draw(4)), fmt.Sprint(draw(4))}
	if k == 1 && draw(9) > 0 {
		words[2] = "0"
	}
	for range draw(4) {
		c := callsAre[2*k-draw(2)]
		if draw(20) == 0 {
			c = callsAre[1+draw(8)]
		}
		if c == "enter" || c == "leave" {
			c += fmt.Sprint(":", draw(3)*draw(40))
		}
		words = append(words, c)
	}
	return strings.Join(words, " ")
}

// drawnAsk is a line that asks, and changes nothing.
func drawnAsk(draw func(int) int) string {
	line := []string{"state", "out", "vars", "waiting", "counts", "order"}[draw(6)]
	if line == "state" || line == "out" {
		line += fmt.Sprint(" ", draw(5))
	}
	return line
}

// drawnLines are one or more that stand together.
func drawnLines(draw func(int) int) []string {
	switch draw(12) {
	case 0, 1:
		return drawnText(draw)
	case 2:
		return []string{drawnCall(draw)}
	case 3:
		return []string{"heap" + strings.Repeat(fmt.Sprint(" ", draw(4)), 2+draw(12))}
	case 4:
		return []string{fmt.Sprint("start ", engines[1+draw(2)], " ", managers[1+draw(3)], " ", draw(20)%10)}
	case 5, 6:
		return []string{fmt.Sprint("step ", draw(5))}
	case 7:
		return []string{fmt.Sprint("run ", draw(5), " ", draw(53))}
	case 8:
		return []string{fmt.Sprint("round ", draw(53))}
	}
	return []string{drawnAsk(draw)}
}

// spoilt is a line with a byte more, less, or another one; or with a word more.
func spoilt(draw func(int) int, line string) string {
	const some = "0159 x:_-\n\r\t\xff#a"
	at, sign := draw(len(line)), string(some[draw(len(some))])
	switch draw(4) {
	case 0:
		return line[:at] + line[at+1:]
	case 1:
		return line[:at] + sign + line[at+1:]
	case 2:
		return line + " " + sign
	}
	return line[:at] + sign + line[at:]
}

// drawnScript are lines, most of which say something.
func drawnScript(draw func(int) int) []string {
	l := []string{"heap 0 1 0 2 0"}
	for range 1 + draw(3) {
		if draw(2) == 0 {
			l = append(l, drawnCall(draw))
		} else {
			l = append(l, drawnText(draw)...)
		}
	}
	l = append(l, fmt.Sprint("start ", engines[1+draw(2)], " ", managers[1+draw(3)], " ", 1+draw(8)))
	for range draw(40) {
		l = append(l, drawnLines(draw)...)
	}
	for i := range l {
		if draw(40) == 0 {
			l[i] = spoilt(draw, l[i])
		}
	}
	return l
}
