package under

import (
	"depot/api"
	"depot/lits"
)

// phase is the value of each variable that is tried first, the variable v's at v - 1.
type phase struct {
	values []bool
	kept   bool // is it the one that the variable was seen with last?
}

// phaseOf: of so many variables, by a config that is well shaped.
func phaseOf(c api.Config, vars int) phase {
	p := phase{make([]bool, vars), c.Phase == api.PhaseKept}
	for k := range p.values {
		p.values[k] = c.Phase == api.PhaseTrue
	}
	return p
}

// first: of a variable's two literals the one that is tried first.
func (p phase) first(v int) int {
	if p.values[v-1] {
		return v
	}
	return -v
}

// keep says that a literal was true.
func (p phase) keep(l int) {
	if p.kept {
		p.values[lits.Var(l)-1] = l > 0
	}
}
