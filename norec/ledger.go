package norec

import (
	"slices"

	"rowlock/api"
)

// ledger is what is known of all attempts, also of those that have ended.
type ledger struct {
	events []api.Event
	pages  []page // by number
}

// page is what is known of one.
type page struct {
	snapshot uint64 // what it has, or had when it ended
	writes   bool   // it is decided, or committed with writes
	reason   api.Reason
}

// rank is where an attempt stands. The lock counts 2 more behind one that writes, so that one stands ahead of all whose snapshot has its writes, and behind all that read at its own snapshot.
func (p page) rank() uint64 {
	if p.writes {
		return p.snapshot + 2
	}
	return p.snapshot + 1
}

// began is how many did.
func (l *ledger) began() int { return len(l.pages) }

// enter notes that an attempt begins, and answers its number.
func (l *ledger) enter(snapshot uint64) int {
	number := l.began()
	l.pages = append(l.pages, page{snapshot: snapshot})
	l.note(api.Event{Kind: api.Began, Attempt: number})
	return number
}

// snapshotOf is what the lock counted when all that an attempt read was last known to stand there.
func (l *ledger) snapshotOf(number int) uint64 { return l.pages[number].snapshot }

// renew notes another snapshot of an attempt.
func (l *ledger) renew(number int, snapshot uint64) { l.pages[number].snapshot = snapshot }

// decide notes that an attempt will commit what it wrote.
func (l *ledger) decide(number int) { l.pages[number].writes = true }

// note notes an event.
func (l *ledger) note(e api.Event) { l.events = append(l.events, e) }

// giveUp notes that an attempt is aborted.
func (l *ledger) giveUp(number int, why api.Reason) {
	l.pages[number].reason = why
	l.note(api.Event{Kind: api.Aborted, Attempt: number})
}

// why is why one was aborted.
func (l *ledger) why(number int) api.Reason {
	if number < 0 || number >= l.began() {
		return api.NoReason
	}
	return l.pages[number].reason
}

// sorted are all attempts by where they stand. They come by rising numbers, and each goes ahead of the first one that stands further on: so of the same the least number is first.
func (l *ledger) sorted() []int {
	var order []int
next:
	for number, p := range l.pages {
		for at, other := range order {
			if p.rank() < l.pages[other].rank() {
				order = slices.Insert(order, at, number)
				continue next
			}
		}
		order = append(order, number)
	}
	return order
}

// copied is another ledger with the same.
func (l *ledger) copied() ledger {
	return ledger{events: slices.Clone(l.events), pages: slices.Clone(l.pages)}
}
