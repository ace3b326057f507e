package trace

import (
	"iter"
	"strconv"
	"strings"

	"rowlock/api"
	"rowlock/value"
)

// words are those of the kinds of events, in their order.
var words = [...]string{"", "begin", "read", "write", "push", "drop", "merge", "try", "commit", "abort"}

// lineOf is the line of an event whose kind is one.
func lineOf(e api.Event) string {
	line := words[e.Kind] + " " + strconv.Itoa(e.Attempt)
	if touches(e) {
		line += " " + strconv.Itoa(e.Tvar) + " " + value.Hex(e.Val)
	}
	return line
}

// lines goes through those of a text, without their line feeds, and through what stands behind the last of these, if anything does.
func lines(text string) iter.Seq[string] {
	return func(yield func(string) bool) {
		for rest := text; rest != ""; {
			var line string
			line, rest, _ = strings.Cut(rest, "\n")
			if !yield(line) {
				return
			}
		}
	}
}

// eventOf is what a line says, though its digits may be others than would be printed, and the event one that can't be.
func eventOf(line string) (e api.Event, ok bool) {
	said := strings.Split(line, " ")
	e.Kind = kindOf(said[0])
	if e.Kind == api.NoEvent || len(said) != wordsOf(e) {
		return api.Event{}, false
	}
	var err error
	if e.Attempt, err = strconv.Atoi(said[1]); err != nil {
		return api.Event{}, false
	}
	if !touches(e) {
		return e, true
	}
	if e.Tvar, err = strconv.Atoi(said[2]); err != nil {
		return api.Event{}, false
	}
	var errno api.Errno
	e.Val, errno = value.Parse(said[3])
	return e, errno == api.OK
}

// wordsOf is how many an event's line has.
func wordsOf(e api.Event) int {
	if touches(e) {
		return 4
	}
	return 2
}

// kindOf is the kind that a word tells; NoEvent, if it tells none. As the kinds are counted in the order of their words, a word's is as many as it falls through.
func kindOf(word string) (k api.EventKind) {
	switch word {
	case "abort":
		k++
		fallthrough
	case "commit":
		k++
		fallthrough
	case "try":
		k++
		fallthrough
	case "merge":
		k++
		fallthrough
	case "drop":
		k++
		fallthrough
	case "push":
		k++
		fallthrough
	case "write":
		k++
		fallthrough
	case "read":
		k++
		fallthrough
	case "begin":
		k++
	}
	return k
}
