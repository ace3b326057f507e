package waits

import (
	"slices"
	"testing"

	"rowlock/api"
)

// numbers draws numbers below n, the same ones for the same seed.
func numbers(seed uint64) func(n int) int {
	return func(n int) int {
		seed = seed*6364136223846793005 + 1442695040888963407
		return int(seed >> 33 % uint64(n))
	}
}

// drawnTvars are up to four variables, now and then one that there is not, or one more than once.
func drawnTvars(draw func(int) int) []int {
	var l []int
	for range draw(5) {
		l = append(l, draw(api.MaxTvars))
	}
	if draw(12) == 0 {
		l = append(l, noTvars[draw(len(noTvars))])
	}
	return l
}

func there(tvar int) bool { return 0 <= tvar && tvar < api.MaxTvars }

// plain is who waits, told in the plainest way: those that wait, one behind the other.
type plain []one

func (p plain) find(th int) int { return slices.IndexFunc(p, func(w one) bool { return w.th == th }) }

// register is what should become of Register.
func (p *plain) register(th int, tvars []int) api.Errno {
	switch {
	case th < 0 || th >= api.MaxThreads || slices.ContainsFunc(tvars, func(tvar int) bool { return !there(tvar) }):
		return api.ErrRange
	case len(tvars) == 0:
		return api.ErrForm
	case p.find(th) >= 0:
		return api.ErrExist
	}
	*p = append(*p, one{th: th, tvars: tvars})
	return api.OK
}

// sleep is what should become of Sleep.
func (p plain) sleep(th int) api.Errno {
	if th < 0 || th >= api.MaxThreads {
		return api.ErrRange
	}
	at := p.find(th)
	if at < 0 || p[at].asleep {
		return api.ErrState
	}
	p[at].asleep = true
	return api.OK
}

// cancel is what should become of Cancel.
func (p *plain) cancel(th int) api.Errno {
	if th < 0 || th >= api.MaxThreads {
		return api.ErrRange
	}
	at := p.find(th)
	if at < 0 {
		return api.ErrNoent
	}
	*p = slices.Delete(*p, at, at+1)
	return api.OK
}

// wake is what should become of Wake.
func (p *plain) wake(tvars []int) []int {
	var woken []int
	var left plain
	for _, w := range *p {
		if slices.ContainsFunc(w.tvars, func(tvar int) bool { return slices.Contains(tvars, tvar) }) {
			woken = append(woken, w.th)
		} else {
			left = append(left, w)
		}
	}
	*p = left
	return woken
}

// wakens holds lists against P13.3: each variable that one waits for wakes it, and no other does, be it awake or asleep, alone or with others that it does not wait for; and against P13.4.
func wakens(t *testing.T, l *Lists) {
	t.Helper()
	for th := range api.MaxThreads {
		tvars := l.Of(th)
		waits := slices.Contains(l.Waiting(), th)
		if waits != (len(tvars) > 0) {
			t.Errorf("thread %d waits for %v", th, tvars)
		}
		if l.Asleep(th) && !waits {
			t.Errorf("thread %d sleeps, and does not wait", th)
		}
		var others []int
		for tvar := range api.MaxTvars {
			woken := slices.Contains(l.Fork().Wake(tvar), th)
			if woken != slices.Contains(tvars, tvar) || woken != slices.Contains(l.At(tvar), th) {
				t.Errorf("variable %d wakes thread %d, which waits for %v: %v", tvar, th, tvars, woken)
			}
			if !slices.Contains(tvars, tvar) {
				others = append(others, tvar)
			}
		}
		if slices.Contains(l.Fork().Wake(others...), th) {
			t.Errorf("variables %v wake thread %d, which waits for %v", others, th, tvars)
		}
		for _, tvar := range tvars {
			f := l.Fork()
			if !slices.Contains(f.Wake(append(slices.Clone(others), tvar)...), th) || slices.Contains(f.Waiting(), th) || f.Asleep(th) {
				t.Errorf("variable %d among others does not wake thread %d", tvar, th)
			}
		}
	}
}

// TestDrawn: many drawn calls, each held against what should become of it.
func TestDrawn(t *testing.T) {
	for seed := range uint64(60) {
		draw := numbers(seed)
		l := New()
		var p plain
		for range 120 {
			th, tvars := draw(api.MaxThreads+2)-1, drawnTvars(draw)
			switch draw(6) {
			case 0, 1, 2:
				answers(t, "Register", l.Register(th, tvars...), p.register(th, tvars))
			case 3:
				answers(t, "Sleep", l.Sleep(th), p.sleep(th))
			case 4:
				answers(t, "Cancel", l.Cancel(th), p.cancel(th))
			case 5:
				are(t, "Wake", l.Wake(tvars...), p.wake(tvars)...)
			}
			is(t, l, p...)
			wakens(t, l)
			if t.Failed() {
				t.Fatalf("seed %d", seed)
			}
		}
	}
}
