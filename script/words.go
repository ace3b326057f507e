package script

import (
	"strconv"
	"strings"

	"rowlock/api"
	"rowlock/value"
)

// numbers are words as such; false, if one is none.
func numbers(words []string) ([]int, bool) {
	var l []int
	for _, word := range words {
		n, ok := Number(word)
		if !ok {
			return nil, false
		}
		l = append(l, n)
	}
	return l, true
}

func engineOf(word string) api.EngineKind {
	switch word {
	case "tl2":
		return api.Tl2
	case "norec":
		return api.Norec
	}
	return api.NoEngine
}

func managerOf(word string) api.ManagerKind {
	switch word {
	case "polite":
		return api.Polite
	case "karma":
		return api.Karma
	case "greedy":
		return api.Greedy
	}
	return api.NoManager
}

func objectOf(word string) api.ObjectKind {
	switch word {
	case "mutex":
		return api.Mutex
	case "semaphore":
		return api.Semaphore
	case "queue":
		return api.Queue
	case "barrier":
		return api.Barrier
	}
	return api.NoObject
}

// callsOf are the calls of one who does them; false, if a word is none.
func callsOf(words []string, who int) ([]api.Call, bool) {
	var l []api.Call
	for _, word := range words {
		c, ok := callOf(word)
		if !ok {
			return nil, false
		}
		c.Who = who
		l = append(l, c)
	}
	return l, true
}

// callOf is the call that a word tells, be it one that its object takes or not.
func callOf(word string) (api.Call, bool) {
	name, digits, has := strings.Cut(word, ":")
	if !has {
		kind := bareCall(name)
		return api.Call{Kind: kind}, kind != api.NoCall
	}
	kind := callWithNumber(name)
	n, ok := Number(digits)
	if kind == api.NoCall || !ok {
		return api.Call{}, false
	}
	v, _ := value.Int(n)
	return api.Call{Kind: kind, Val: v}, true
}

func bareCall(word string) api.CallKind {
	switch word {
	case "lock":
		return api.LockIt
	case "unlock":
		return api.UnlockIt
	case "down":
		return api.DownIt
	case "up":
		return api.UpIt
	case "take":
		return api.TakeIt
	case "arrive":
		return api.ArriveIt
	}
	return api.NoCall
}

func callWithNumber(word string) api.CallKind {
	switch word {
	case "enter":
		return api.EnterIt
	case "leave":
		return api.LeaveIt
	}
	return api.NoCall
}

// failed is the answer of what has an error.
func failed(e api.Errno) string { return "error " + strconv.Itoa(int(e)) }

// row are things, each as it is told, with a blank between; a dash, if there are none.
func row[T any](l []T, tell func(T) string) string {
	if len(l) == 0 {
		return "-"
	}
	var words []string
	for _, one := range l {
		words = append(words, tell(one))
	}
	return strings.Join(words, " ")
}

// told is a value as a number, where the number tells its bits.
func told(v api.Val) string {
	if n, ok := value.Whole(v); ok && v != api.NegZero {
		return strconv.Itoa(n)
	}
	return "x" + value.Hex(v)
}

func counted(c api.Counts) string {
	return row([]int{c.Attempts, c.Commits, c.Aborts, c.Open, c.Reads, c.Writes}, strconv.Itoa)
}
