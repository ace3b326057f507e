package tl2

import (
	"cmp"
	"slices"

	"rowlock/api"
)

// ledger is what is known of all attempts, also of those that have ended.
type ledger struct {
	events []api.Event
	pages  []page // by number
}

// page is what is known of one: where it stands in the order, and why it was aborted.
type page struct {
	rank   uint64
	reason api.Reason
}

// began is how many did.
func (l *ledger) began() int { return len(l.pages) }

// enter notes that an attempt begins, and answers its number. It stands behind all that wrote at the versions it may read, and ahead of those that write at the next one.
func (l *ledger) enter(rv uint64) int {
	number := l.began()
	l.pages = append(l.pages, page{rank: 2*rv + 1})
	l.note(api.Event{Kind: api.Began, Attempt: number})
	return number
}

// decide notes that an attempt will commit: from now on it stands where its writes do.
func (l *ledger) decide(number int, wv uint64) { l.pages[number].rank = 2 * wv }

// note notes an event.
func (l *ledger) note(e api.Event) { l.events = append(l.events, e) }

// giveUp notes that an attempt is aborted.
func (l *ledger) giveUp(number int, why api.Reason) {
	l.pages[number].reason = why
	l.note(api.Event{Kind: api.Aborted, Attempt: number})
}

// why is why one was aborted.
func (l *ledger) why(number int) api.Reason {
	if number < 0 || number >= l.began() {
		return api.NoReason
	}
	return l.pages[number].reason
}

// sorted are all attempts by where they stand, of the same the least number first.
func (l *ledger) sorted() []int {
	var order []int
	for number := range l.began() {
		order = append(order, number)
	}
	slices.SortFunc(order, func(a, b int) int {
		return cmp.Or(cmp.Compare(l.pages[a].rank, l.pages[b].rank), cmp.Compare(a, b))
	})
	return order
}

// copied is another ledger with the same.
func (l *ledger) copied() ledger {
	return ledger{events: slices.Clone(l.events), pages: slices.Clone(l.pages)}
}
