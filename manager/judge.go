package manager

import "rowlock/api"

// judge is what the kinds of managers differ in. It keeps nothing itself, so that a Fork may have the same.
type judge interface {
	// kills tells whether one is to abort the other one, that stands in its way.
	kills(own, other thread) bool
	// wait notes that one waits, and answers for how many ticks.
	wait(own *thread) int
}

// politeTries is how often a polite one waits.
const politeTries = 4

// polite waits for the other one, twice as long each time, but not for ever.
type polite struct{}

func (polite) kills(own, _ thread) bool { return own.tries >= politeTries }

func (polite) wait(own *thread) int {
	ticks := 1 << own.tries
	own.tries++
	return ticks
}

// karma lets go first who has done more; having waited counts as having done something.
type karma struct{}

func (karma) kills(own, other thread) bool { return own.merit+own.tries > other.merit }

func (karma) wait(own *thread) int {
	own.tries++
	return 1
}

// greedy lets go first who began earlier, and does not wait for one that waits itself.
type greedy struct{}

func (greedy) kills(own, other thread) bool { return other.waits || own.stamp < other.stamp }

func (greedy) wait(own *thread) int {
	own.tries++
	own.waits = true
	return 1
}

// judgeOf is that of a kind; nil, if there is no such kind.
func judgeOf(k api.ManagerKind) judge {
	switch k {
	case api.Polite:
		return polite{}
	case api.Karma:
		return karma{}
	case api.Greedy:
		return greedy{}
	}
	return nil
}

// kindOf is the kind of a judge.
func kindOf(j judge) api.ManagerKind {
	switch j.(type) {
	case polite:
		return api.Polite
	case karma:
		return api.Karma
	case greedy:
		return api.Greedy
	}
	return api.NoManager
}
