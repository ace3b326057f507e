package across

import (
	"fmt"
	"slices"
	"strings"
	"testing"

	"rowlock/api"
	"rowlock/asm"
	"rowlock/history"
	"rowlock/machine"
	"rowlock/opaque"
	"rowlock/script"
	"rowlock/trace"
	"rowlock/value"
)

// goOn lets threads go on as they are drawn, so often, and on until no thread has a lock.
func (w *watch) goOn(draw func(int) int, steps int) {
	for i := 0; i < steps || w.m.Locked(); i++ {
		w.m.Step(draw(len(w.code)))
	}
}

// counted holds what the machine's history comes to against what the machine tells of its threads.
func (w *watch) counted() {
	w.t.Helper()
	var want api.Counts
	for number := 0; ; number++ {
		if _, ok := w.m.Owner(number); !ok {
			want.Attempts = number
			break
		}
		if w.m.Why(number) != api.NoReason {
			want.Aborts++
		}
	}
	for th := range w.code {
		want.Commits += w.m.Commits(th)
		if _, ok := w.m.Attempt(th); ok {
			want.Open++
		}
	}
	got := trace.CountsOf(w.m.Events())
	if want.Reads, want.Writes = got.Reads, got.Writes; got != want {
		w.t.Fatalf("CountsOf is %+v, not %+v", got, want)
	}
}

// traced holds the machine's history against P25.2 and P25.6.
func (w *watch) traced() {
	w.t.Helper()
	events := w.m.Events()
	text, errno := trace.Print(events)
	if len(events) > api.MaxEvents {
		if errno != api.ErrForm {
			w.t.Fatalf("Print of %d events: %d", len(events), errno)
		}
		return
	}
	back, e := trace.Parse(text)
	if errno != api.OK || e != api.OK || !slices.Equal(back, events) {
		w.t.Fatalf("Print of %v is %q, %d; Parse is %v, %d", events, text, errno, back, e)
	}
	met := trace.Conflicts(events)
	if len(w.code) == 1 && (len(met) > 0 || trace.Chains(events) != len(history.Attempts(events))) {
		w.t.Fatalf("alone a thread has the conflicts %v, and a row of %d", met, trace.Chains(events))
	}
	w.told["met"] += len(met)
}

// inTheWay holds aborted attempts of norec against E5: whoever read what is another one now has met the one who wrote it.
func (w *watch) inTheWay() {
	w.t.Helper()
	events := w.m.Events()
	met := trace.Conflicts(events)
	for _, number := range history.Attempts(events) {
		if w.m.Why(number) != api.Changed {
			continue
		}
		w.told["changed"]++
		if !slices.ContainsFunc(met, func(pair [2]int) bool { return pair[0] == number || pair[1] == number }) {
			w.t.Fatalf("attempt %d of %v has met none of %v", number, events, met)
		}
	}
}

// merged holds two machines' histories, of which the second one went on where the first one stopped, against P25.3, P25.4 and E3: both together can have come one behind the other, and come to the second one's heap.
func merged(t *testing.T, a, b *watch) bool {
	t.Helper()
	l, errno := trace.Merge(a.m.Events(), b.m.Events())
	if errno != api.OK {
		return false
	}
	shift := len(history.Attempts(a.m.Events()))
	order := a.m.Order()
	for _, number := range b.m.Order() {
		order = append(order, number+shift)
	}
	if place, errno := opaque.Legal(l, a.first, order, nil); errno != api.OK {
		t.Fatalf("%v of %v is not Legal: %d, %d", order, l, place, errno)
	}
	if heap, _ := opaque.Heap(l, a.first, order, nil); !slices.Equal(heap, b.m.Heap()) {
		t.Fatalf("the heap behind %v is %v, not %v", l, heap, b.m.Heap())
	}
	for _, ended := range slices.Concat(history.In(a.m.Events(), api.Success), history.In(a.m.Events(), api.Failure)) {
		if !history.Before(l, ended, shift) && len(l) > len(a.m.Events()) {
			t.Fatalf("%d is not before %d in %v", ended, shift, l)
		}
	}
	return true
}

// TestManyTraces: the histories of many drawn machines, as text and back, what they come to, and two together.
func TestManyTraces(t *testing.T) {
	draw := numbers(25)
	told := map[string]int{}
	for range 1500 {
		k := api.EngineKind(1 + draw(2))
		first := drawnHeap(draw)
		var two []*watch
		for range 2 {
			w := &watch{t: t, first: first, told: told}
			for range 1 + draw(3) {
				l := drawnFighter(draw)
				if draw(2) == 0 {
					l = drawnRight(draw, draw(3) == 0)
				}
				w.code = append(w.code, l)
			}
			w.m = machine.New(k, first, 1+draw(4), api.ManagerKind(1+draw(3)), w.code...)
			w.goOn(draw, draw(150))
			w.counted()
			w.traced()
			if k == api.Norec {
				w.inTheWay()
			}
			two, first = append(two, w), w.m.Heap()
		}
		if merged(t, two[0], two[1]) {
			told["merged"]++
		}
	}
	for _, name := range []string{"met", "changed", "merged"} {
		if told[name] < 100 {
			t.Errorf("%s: %d times", name, told[name])
		}
	}
}

// teller writes a script, and what it should answer.
type teller struct {
	t             *testing.T
	lines, answer []string
}

// add is a line more, with its answer.
func (s *teller) add(answer any, line ...any) {
	s.lines = append(s.lines, strings.TrimSuffix(fmt.Sprintln(line...), "\n"))
	s.answer = append(s.answer, fmt.Sprint(answer))
}

// tell adds a program's lines.
func (s *teller) tell(l []api.Ins) {
	s.t.Helper()
	text, errno := asm.Disassemble(l)
	if errno != api.OK {
		s.t.Fatalf("Disassemble of %v: %d", l, errno)
	}
	for _, line := range strings.Split(strings.TrimSuffix(text, "\n"), "\n") {
		s.add("ok", "text", strings.ReplaceAll(line, " ", "_"))
	}
	s.add("ok", "thread")
}

// listed are numbers as a script tells them.
func listed(l []int) string {
	if len(l) == 0 {
		return "-"
	}
	return strings.Trim(fmt.Sprint(l), "[]")
}

// vals are values as a script tells them.
func vals(l []api.Val) string {
	if len(l) == 0 {
		return "-"
	}
	var words []string
	for _, v := range l {
		if n, ok := value.Whole(v); ok && (n != 0 || v == 0) {
			words = append(words, fmt.Sprint(n))
		} else {
			words = append(words, "x"+value.Hex(v))
		}
	}
	return strings.Join(words, " ")
}

// ask adds lines that ask for all that a script tells of a machine.
func (s *teller) ask(m *machine.Machine) {
	for th := range m.Threads() {
		s.add(int(m.StateOf(th)), "state", th)
		s.add(vals(m.Thread(th).Out), "out", th)
	}
	s.add(vals(m.Heap()), "vars")
	s.add(listed(m.Waiting()), "waiting")
	s.add(listed(m.Order()), "order")
	s.add(strings.Trim(fmt.Sprint(trace.CountsOf(m.Events())), "{}"), "counts")
}

// goOn adds a line that lets threads go on, and lets the machine do the same.
func (s *teller) goOn(draw func(int) int, m *machine.Machine) {
	th, n := draw(m.Threads()), draw(51)
	switch draw(4) {
	case 0:
		for range n {
			m.Step(th)
		}
		s.add(n, "run", th, n)
	case 1:
		for range n {
			for each := range m.Threads() {
				m.Step(each)
			}
		}
		s.add(m.Time(), "round", n)
	default:
		does, _ := m.Step(th)
		s.add(int(does), "step", th)
	}
}

// TestManyScripts: P26.1, E1: many drawn programs and picks: a script tells of them just what the machine does that the same was done to.
func TestManyScripts(t *testing.T) {
	draw := numbers(26)
	played := 0
	for range 500 {
		s := &teller{t: t}
		var heap []api.Val
		var code [][]api.Ins
		for range tvars {
			heap = append(heap, value.Of(float64(draw(tvars+1))))
		}
		s.add("ok", "heap", vals(heap))
		for range 1 + draw(3) {
			l := drawnRight(draw, draw(3) == 0)
			s.tell(l)
			code = append(code, l)
		}
		k, judge, stripes := 1+draw(2), 1+draw(3), 1+draw(4)
		m := machine.New(api.EngineKind(k), heap, stripes, api.ManagerKind(judge), code...)
		s.add("ok", "start", []string{"", "tl2", "norec"}[k], []string{"", "polite", "karma", "greedy"}[judge], stripes)
		for range 40 {
			s.goOn(draw, m)
			if draw(10) == 0 {
				s.ask(m)
			}
		}
		s.ask(m)
		text, want := strings.Join(s.lines, "\n"), strings.Join(s.answer, "\n")+"\n"
		if len(text) > api.MaxScript {
			want = "long\n"
		} else {
			played++
		}
		if got := script.Run(text); got != want {
			t.Fatalf("%q answers %q, not %q", text, got, want)
		}
	}
	if played < 300 {
		t.Errorf("just %d were played", played)
	}
}
