package solve

import (
	"depot/api"
	"depot/heat"
	"depot/pace"
)

// lead is how a search is led: whom it asks, and whom it tells.
type lead struct {
	// Which variable is next:
	take   func() (int, bool)    // the one to go by, which is within no more; false: none is within
	put    func(v int) api.Errno // it is within again
	within func(v int) bool      // is it?
	bump   func(v int) api.Errno // it was in a conflict
	cool   func()                // what was so far counts for less

	// When:
	conflict func()      // there was one
	restart  func() bool // is it time to begin anew?
	clear    func() bool // is it time to forget what was learnt?

	// Which value:
	first func(v int) int // of a variable's two literals the one that is tried first
	keep  func(l int)     // the literal was true
}

// leadBy: the lead of a search over so many variables by a config that is well shaped.
func leadBy(c api.Config, vars int) lead {
	warm, _ := heat.New(vars, c.Decay)
	when, _ := pace.Make(c)
	out := lead{
		take: warm.Take, put: warm.Put, within: warm.In, bump: warm.Bump, cool: warm.Cool,
		conflict: when.Conflict, restart: when.Restart, clear: when.Clear,
	}
	if c.Phase == api.PhaseKept {
		values := make(kept, vars)
		out.first, out.keep = values.first, values.keep
	} else {
		value := always(c.Phase == api.PhaseTrue)
		out.first, out.keep = value.first, value.keep
	}
	return out
}

// always is the value that is tried first of every variable.
type always bool

func (a always) first(v int) int {
	if a {
		return v
	}
	return -v
}

func (a always) keep(int) {}

// kept is the value that each variable was seen with last, the variable v's at v - 1; false, if it was seen with none.
type kept []bool

func (k kept) first(v int) int { return always(k[v-1]).first(v) }

func (k kept) keep(l int) { k[variable(l)-1] = l > 0 }

// variable: a literal's.
func variable(l int) int { return max(l, -l) }
