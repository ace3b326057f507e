package trace

import (
	"fmt"
	"math"
	"regexp"
	"slices"
	"strconv"
	"strings"

	"rowlock/api"
	"rowlock/history"
)

// two is a value that tests read and write; notRight are bits of what is no number, which are not right.
const (
	two      api.Val = 0x4000000000000000
	notRight api.Val = 0x7ff8000000000001
)

// vals are values that are right, of all classes.
var vals = []api.Val{0, api.One, two, api.NegZero, api.NaN, api.Infinity, api.Infinity | api.NegZero, 1, 0x3fd5555555555555}

// numbers draws numbers below n, the same ones for the same seed.
func numbers(seed uint64) func(n int) int {
	return func(n int) int {
		seed = seed*6364136223846793005 + 1442695040888963407
		return int(seed >> 33 % uint64(n))
	}
}

// of are events of one attempt, of variable 0 and value 0.
func of(attempt int, kinds ...api.EventKind) []api.Event {
	var l []api.Event
	for _, k := range kinds {
		l = append(l, api.Event{Kind: k, Attempt: attempt})
	}
	return l
}

func read(attempt, tvar int, v api.Val) api.Event {
	return api.Event{Kind: api.Read, Attempt: attempt, Tvar: tvar, Val: v}
}

func wrote(attempt, tvar int, v api.Val) api.Event {
	return api.Event{Kind: api.Wrote, Attempt: attempt, Tvar: tvar, Val: v}
}

// drawnEvent is one that may be right: of an attempt below some number, and few variables.
func drawnEvent(draw func(int) int, attempts int) api.Event {
	e := api.Event{Kind: api.EventKind(1 + draw(9)), Attempt: draw(attempts)}
	if e.Kind == api.Read || e.Kind == api.Wrote {
		e.Tvar, e.Val = draw(4), vals[draw(len(vals))]
		if draw(4) == 0 {
			e.Tvar = draw(api.MaxTvars)
		}
	}
	return e
}

// drawnRight are right events of attempts below some number. What ends attempts is passed over most often, so that they do something.
func drawnRight(draw func(int) int, attempts int) []api.Event {
	var l []api.Event
	for range draw(150) {
		e := drawnEvent(draw, attempts)
		if e.Kind >= api.Tried && draw(2) > 0 {
			continue
		}
		if more := append(slices.Clone(l), e); history.Right(more) {
			l = more
		}
	}
	return l
}

// drawnAny are events of any kind, attempt, variable and value.
func drawnAny(draw func(int) int) []api.Event {
	strange := []int{math.MinInt, -1, api.MaxTvars, api.MaxAttempts, math.MaxInt}
	var l []api.Event
	for range draw(30) {
		e := drawnEvent(draw, 1+draw(7))
		if draw(6) == 0 {
			e.Kind = []api.EventKind{api.NoEvent, 10, 255, api.Began}[draw(4)]
		}
		if draw(6) == 0 {
			e.Attempt = strange[draw(len(strange))]
		}
		if draw(6) == 0 {
			e.Tvar = strange[draw(len(strange))]
		}
		if draw(9) == 0 {
			e.Val = notRight
		}
		l = append(l, e)
	}
	return l
}

// oneAtATime are right events of attempts of which each has ended when the next one begins.
func oneAtATime(draw func(int) int) []api.Event {
	var l []api.Event
	for attempt := range draw(8) {
		l = append(l, of(attempt, api.Began)...)
		for range draw(6) {
			e := drawnEvent(draw, 1)
			e.Attempt = attempt
			if more := append(slices.Clone(l), e); e.Kind < api.Pushed && history.Right(more) {
				l = more
			}
		}
		if draw(2) == 0 {
			l = append(l, of(attempt, api.Tried, api.Committed)...)
		} else {
			l = append(l, of(attempt, api.Aborted)...)
		}
	}
	return l
}

// The forms of lines.
var (
	plainForm = regexp.MustCompile(`^(begin|push|drop|merge|try|commit|abort) (0|[1-9][0-9]?)$`)
	tvarForm  = regexp.MustCompile(`^(read|write) (0|[1-9][0-9]?) (0|[1-9][0-9]?) ([0-9a-f]{16})$`)
)

// modelWords are those of the kinds.
var modelWords = map[api.EventKind]string{
	api.Began: "begin", api.Read: "read", api.Wrote: "write", api.Pushed: "push", api.Dropped: "drop",
	api.Merged: "merge", api.Tried: "try", api.Committed: "commit", api.Aborted: "abort",
}

// modelPrint is what Print should be.
func modelPrint(l []api.Event) (string, api.Errno) {
	if !history.Right(l) {
		return "", api.ErrForm
	}
	s := ""
	for _, e := range l {
		s += fmt.Sprint(modelWords[e.Kind], " ", e.Attempt)
		if e.Kind == api.Read || e.Kind == api.Wrote {
			s += fmt.Sprintf(" %d %016x", e.Tvar, uint64(e.Val))
		}
		s += "\n"
	}
	return s, api.OK
}

// modelLine is the event that a line of the right form says.
func modelLine(line string) (e api.Event, ok bool) {
	m := plainForm.FindStringSubmatch(line)
	if m == nil {
		if m = tvarForm.FindStringSubmatch(line); m == nil {
			return e, false
		}
		e.Tvar, _ = strconv.Atoi(m[3])
		bits, _ := strconv.ParseUint(m[4], 16, 64)
		e.Val = api.Val(bits)
	}
	for k, word := range modelWords {
		if word == m[1] {
			e.Kind = k
		}
	}
	e.Attempt, _ = strconv.Atoi(m[2])
	return e, true
}

// modelParse is what Parse should be.
func modelParse(s string) ([]api.Event, api.Errno) {
	if s == "" {
		return nil, api.OK
	}
	body, ok := strings.CutSuffix(s, "\n")
	if !ok {
		return nil, api.ErrForm
	}
	var l []api.Event
	for _, line := range strings.Split(body, "\n") {
		e, ok := modelLine(line)
		if !ok {
			return nil, api.ErrForm
		}
		l = append(l, e)
	}
	if !history.Right(l) {
		return nil, api.ErrForm
	}
	return l, api.OK
}

// modelCounts is what CountsOf should be.
func modelCounts(l []api.Event) api.Counts {
	var c api.Counts
	for _, attempt := range history.Attempts(l) {
		c.Attempts++
		switch history.StateOf(l, attempt) {
		case api.Success:
			c.Commits++
		case api.Failure:
			c.Aborts++
		default:
			c.Open++
		}
	}
	for _, e := range l {
		if e.Kind == api.Read {
			c.Reads++
		}
		if e.Kind == api.Wrote {
			c.Writes++
		}
	}
	return c
}

// modelBusiest is what Busiest should be.
func modelBusiest(l []api.Event) (int, bool) {
	most, busiest := 0, 0
	for tvar := api.MaxTvars - 1; tvar >= 0; tvar-- {
		n := 0
		for _, e := range l {
			if e.Tvar == tvar && (e.Kind == api.Read || e.Kind == api.Wrote) {
				n++
			}
		}
		if n > 0 && n >= most {
			most, busiest = n, tvar
		}
	}
	return busiest, most > 0
}

// modelMeet tells whether two attempts touched one variable, and one of them wrote it.
func modelMeet(l []api.Event, a, b int) bool {
	for _, x := range history.Cut(l, a) {
		for _, y := range history.Cut(l, b) {
			reads := x.Kind == api.Read && y.Kind == api.Wrote
			writes := x.Kind == api.Wrote && (y.Kind == api.Read || y.Kind == api.Wrote)
			if x.Tvar == y.Tvar && (reads || writes) {
				return true
			}
		}
	}
	return false
}

// modelConflicts is what Conflicts should be.
func modelConflicts(l []api.Event) [][2]int {
	var pairs [][2]int
	attempts := history.Attempts(l)
	for i := range attempts {
		for j := i + 1; j < len(attempts); j++ {
			a, b := attempts[i], attempts[j]
			if !history.Before(l, a, b) && !history.Before(l, b, a) && modelMeet(l, a, b) {
				pairs = append(pairs, [2]int{a, b})
			}
		}
	}
	return pairs
}

// modelFrom is the length of the longest row that begins with an attempt.
func modelFrom(l []api.Event, first int) int {
	longest := 0
	for _, next := range history.Attempts(l) {
		if history.Before(l, first, next) {
			longest = max(longest, modelFrom(l, next))
		}
	}
	return longest + 1
}

// modelChains is what Chains should be.
func modelChains(l []api.Event) int {
	longest := 0
	if history.Right(l) {
		for _, first := range history.Attempts(l) {
			longest = max(longest, modelFrom(l, first))
		}
	}
	return longest
}

// spoilt is a text with a byte more, less, or another one, or with two lines that have changed places.
func spoilt(draw func(int) int, s string) string {
	const some = "0129afgxrwbc -+\n\r\t_\xff\x00"
	at, sign := draw(len(s)+1), string(some[draw(len(some))])
	switch {
	case draw(4) == 0:
		lines := strings.SplitAfter(s, "\n")
		i, j := draw(len(lines)), draw(len(lines))
		lines[i], lines[j] = lines[j], lines[i]
		return strings.Join(lines, "")
	case at == len(s) || draw(3) == 0:
		return s[:at] + sign + s[at:]
	case draw(2) == 0:
		return s[:at] + s[at+1:]
	}
	return s[:at] + sign + s[at+1:]
}
