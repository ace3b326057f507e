package script

import (
	"slices"
	"strconv"
	"strings"

	"rowlock/api"
	"rowlock/asm"
	"rowlock/calls"
	"rowlock/machine"
	"rowlock/trace"
	"rowlock/value"
)

// Answers that are one word.
const (
	done    = "ok"
	noWord  = "word"
	noRoom  = "full"
	nothing = "none"
	notMade = "nil"
)

// mostTimes is how often a line lets threads go on.
const mostTimes = 50

// player is what a script's lines have come to.
type player struct {
	text    []string // the lines of the program that is being told
	threads [][]api.Ins
	heap    []api.Val
	machine *machine.Machine
}

// play does what a line says, and is its answer.
func (p *player) play(line string, rest []string) string {
	switch line {
	case "text":
		return p.tell(rest)
	case "thread":
		return p.thread(rest)
	case "call":
		return p.call(rest)
	case "heap":
		return p.fill(rest)
	case "start":
		return p.start(rest)
	}
	l, ok := numbersFor(line, rest)
	if !ok {
		return noWord
	}
	if p.machine == nil {
		return nothing
	}
	return p.ask(line, l)
}

// tell is one line more of the program.
func (p *player) tell(rest []string) string {
	if len(rest) != 1 {
		return noWord
	}
	p.text = append(p.text, strings.ReplaceAll(rest[0], "_", " "))
	return done
}

// thread makes the program a thread's. Also one that is wrong is gone then: nothing else would take it away.
func (p *player) thread(rest []string) string {
	if len(rest) != 0 {
		return noWord
	}
	program, line, errno := asm.Assemble(strings.Join(p.text, "\n"))
	p.text = nil
	if errno != api.OK {
		return failed(errno) + " " + strconv.Itoa(line)
	}
	return p.add(program)
}

// call is a thread that calls an object.
func (p *player) call(rest []string) string {
	if len(rest) < 3 {
		return noWord
	}
	kind := objectOf(rest[0])
	size, sized := Number(rest[1])
	who, named := Number(rest[2])
	l, fit := callsOf(rest[3:], who)
	if kind == api.NoObject || !sized || !named || !fit {
		return noWord
	}
	program, errno := calls.Program(kind, size, 0, who, l)
	if errno != api.OK {
		return failed(errno)
	}
	return p.add(program)
}

// add is a thread more.
func (p *player) add(program []api.Ins) string {
	if len(p.threads) == api.MaxThreads {
		return noRoom
	}
	p.threads = append(p.threads, program)
	return done
}

// fill gives the variables their values.
func (p *player) fill(rest []string) string {
	l, ok := numbers(rest)
	if !ok || len(l) > api.MaxTvars {
		return noWord
	}
	p.heap = nil
	for _, n := range l {
		v, _ := value.Int(n)
		p.heap = append(p.heap, v)
	}
	return done
}

// start makes a machine of what was told. The threads are forgotten also if it can't be, as threads that can't run would keep any other machine from being, too.
func (p *player) start(rest []string) string {
	if len(rest) != 3 {
		return noWord
	}
	engine, judge := engineOf(rest[0]), managerOf(rest[1])
	stripes, ok := Number(rest[2])
	if engine == api.NoEngine || judge == api.NoManager || !ok {
		return noWord
	}
	p.machine = machine.New(engine, p.heap, stripes, judge, p.threads...)
	p.threads = nil
	if p.machine == nil {
		return notMade
	}
	return done
}

// numbersFor are those of a line that asks the machine; false, if there is no such line, or it should have others. Falling through adds up what a line has.
func numbersFor(line string, rest []string) (l []int, ok bool) {
	count, most := 0, -1
	switch line {
	case "run":
		count++
		fallthrough
	case "round":
		most = mostTimes
		fallthrough
	case "step", "state", "out":
		count++
		fallthrough
	case "vars", "waiting", "counts", "order":
		l, ok = numbers(rest)
	}
	if !ok || len(l) != count || most >= 0 && l[count-1] > most {
		return nil, false
	}
	return l, true
}

// ask is the answer of a line that asks the machine, with just the numbers that it should have.
func (p *player) ask(line string, l []int) string {
	m := p.machine
	switch line {
	case "step":
		if _, errno := m.Step(l[0]); errno != api.OK {
			return failed(errno)
		}
		fallthrough // what a step answers is what the thread does behind it
	case "state":
		return strconv.Itoa(int(m.StateOf(l[0])))
	case "run":
		return strconv.Itoa(m.Run(slices.Repeat(l[:1], l[1])...))
	case "round":
		return round(m, l[0])
	case "out":
		return row(m.Thread(l[0]).Out, told)
	case "vars":
		return row(m.Heap(), told)
	case "waiting":
		return row(m.Waiting(), strconv.Itoa)
	case "counts":
		return counted(trace.CountsOf(m.Events()))
	}
	return row(m.Order(), strconv.Itoa)
}

// round lets all threads go on, in turn, so many times.
func round(m *machine.Machine, times int) string {
	for range times {
		for th := range m.Threads() {
			m.Step(th)
		}
	}
	return strconv.Itoa(m.Time())
}
