package waits

import "rowlock/api"

// set is variables, a bit each: one that is named more than once is there once.
type set uint32

// noTvar tells whether there is no such variable.
func noTvar(tvar int) bool { return tvar < 0 || tvar >= api.MaxTvars }

// setOf are those of tvars that there are.
func setOf(tvars []int) set {
	s := set(0)
	for _, tvar := range tvars {
		if !noTvar(tvar) {
			s |= 1 << tvar
		}
	}
	return s
}

// list is the variables of s, rising.
func (s set) list() []int {
	var tvars []int
	for tvar := range api.MaxTvars {
		if s&(1<<tvar) != 0 {
			tvars = append(tvars, tvar)
		}
	}
	return tvars
}
