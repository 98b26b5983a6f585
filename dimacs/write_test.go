package dimacs_test

import (
	"math"
	"testing"

	"depot/api"
	"depot/dimacs"
)

// writes: the formula has this text.
func writes(t *testing.T, f api.Formula, want string) {
	t.Helper()
	if s, e := dimacs.Write(f); e != api.OK || s != want {
		t.Errorf("Write(%v) = %q, %d, not %q", f, s, e, want)
	}
}

// P3.2: ordinary formulas, and the chapter's own.
func TestWrite(t *testing.T) {
	writes(t, form(3, c(1, -2), c(), c(3, 3)), "p cnf 3 3\n1 -2 0\n0\n3 3 0\n")
	writes(t, form(12, c(-12, 10, 9), c(11), c(11)), "p cnf 12 3\n-12 10 9 0\n11 0\n11 0\n")
	writes(t, form(2, c(2, -2, 1, 2)), "p cnf 2 1\n2 -2 1 2 0\n")
}

// P3.2: formulas with nothing in them, and the greatest literals.
func TestWriteEdges(t *testing.T) {
	writes(t, api.Formula{}, "p cnf 0 0\n")
	writes(t, api.Formula{Clauses: [][]int{}}, "p cnf 0 0\n")
	writes(t, form(7), "p cnf 7 0\n")
	writes(t, form(0, c()), "p cnf 0 1\n0\n")
	writes(t, form(0, nil, c()), "p cnf 0 2\n0\n0\n")
	writes(t, form(api.MaxVar), "p cnf 1048576 0\n")
	writes(t, form(api.MaxVar, c(api.MaxVar, -api.MaxVar)), "p cnf 1048576 1\n1048576 -1048576 0\n")
}

// P3.2: what isn't well shaped has no text.
func TestWriteShape(t *testing.T) {
	for _, f := range []api.Formula{
		form(-1), form(math.MinInt), form(api.MaxVar + 1), form(math.MaxInt), form(-1, c()),
		form(1, c(2)), form(1, c(-2)), form(1, c(1), c(1, 0)), form(1, c(0)), form(0, c(1)), form(0, c(-1)), form(0, c(0)),
		form(api.MaxVar, c(api.MaxVar+1)), form(api.MaxVar, c(-api.MaxVar-1)), form(2, c(math.MaxInt)), form(2, c(1), c(), c(math.MinInt)),
	} {
		if s, e := dimacs.Write(f); e != api.ErrShape || s != "" {
			t.Errorf("Write(%v) = %q, %d", f, s, e)
		}
	}
}
