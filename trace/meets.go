package trace

import (
	"rowlock/api"
	"rowlock/history"
)

// course is what became of an attempt: the places of its first Began, and of the first event that ended it (that behind all, if none did), and of each variable that it touched whether it read it (Read), or wrote it (Wrote), too.
type course struct {
	attempt, began, ended int
	touched               map[int]api.EventKind
}

// courses are those of all attempts, in their order.
func courses(l []api.Event) []course {
	attempts := history.Attempts(l)
	all := make([]course, len(attempts))
	places := make(map[int]int, len(attempts))
	for place, attempt := range attempts {
		all[place] = course{attempt: attempt, began: len(l), ended: len(l), touched: make(map[int]api.EventKind)}
		places[attempt] = place
	}
	for at, e := range l {
		if place, ok := places[e.Attempt]; ok {
			all[place].note(at, e)
		}
	}
	return all
}

// note adds an event of the attempt, at a place.
func (c *course) note(at int, e api.Event) {
	switch e.Kind {
	case api.Began:
		c.began = min(c.began, at)
	case api.Read, api.Wrote:
		c.touched[e.Tvar] = max(c.touched[e.Tvar], e.Kind)
	case api.Committed, api.Aborted:
		c.ended = min(c.ended, at)
	}
}

// before is history.Before of two attempts. There may be many pairs of them: so the events are not gone through for each.
func (c course) before(other course) bool { return c.ended < other.began }

// meets tells whether two attempts touched one variable, and one of them wrote it.
func (c course) meets(other course) bool {
	for tvar, did := range c.touched {
		if does, both := other.touched[tvar]; both && max(did, does) == api.Wrote {
			return true
		}
	}
	return false
}

// Conflicts are the pairs of attempts that met.
func Conflicts(l []api.Event) [][2]int {
	var pairs [][2]int
	all := courses(l)
	for place, one := range all {
		for _, other := range all[place+1:] {
			if !one.before(other) && !other.before(one) && one.meets(other) {
				pairs = append(pairs, [2]int{one.attempt, other.attempt})
			}
		}
	}
	return pairs
}

// Chains is how many attempts came, one behind the other, at most.
func Chains(l []api.Event) int {
	if !history.Right(l) {
		return 0
	}
	longest := 0
	all := courses(l)
	lengths := make([]int, len(all)) // of the longest row that ends with each: whoever was before it began ahead of it
	for place, one := range all {
		lengths[place] = 1
		for ahead, other := range all[:place] {
			if other.before(one) {
				lengths[place] = max(lengths[place], lengths[ahead]+1)
			}
		}
		longest = max(longest, lengths[place])
	}
	return longest
}
