package rup_test

import (
	"fmt"
	"slices"
	"testing"

	"depot/api"
	"depot/lits"
	"depot/rup"
)

// form: a formula of so many variables and these clauses.
func form(vars int, clauses ...[]int) api.Formula {
	return api.Formula{Vars: vars, Clauses: clauses}
}

// over: a formula of these clauses, over as many variables as stand in them.
func over(clauses ...[]int) api.Formula {
	f := form(0, clauses...)
	for _, d := range clauses {
		for _, l := range d {
			f.Vars = max(f.Vars, l, -l)
		}
	}
	return f
}

// c: a clause.
func c(literals ...int) []int {
	return literals
}

// shown: a formula and a clause as a test tells them; of large ones the sizes are enough.
func shown(f api.Formula, clause []int) string {
	if len(f.Clauses) > 100 || len(clause) > 100 {
		return fmt.Sprintf("%d clauses; %d literals", len(f.Clauses), len(clause))
	}
	return fmt.Sprintf("%d: %v; %v", f.Vars, f.Clauses, clause)
}

// against: the opposite of each literal.
func against(clause []int) []int {
	var out []int
	for _, l := range clause {
		out = append(out, -l)
	}
	return out
}

// beside: does a literal stand in a list beside its opposite?
func beside(list []int) bool {
	return slices.ContainsFunc(list, func(l int) bool { return slices.Contains(list, -l) })
}

// clashing: is the closing of f from facts a clash? By chapter 6's words one by one.
func clashing(f api.Formula, facts []int) bool {
	if beside(facts) {
		return true
	}
	l := slices.Clone(facts)
	for k := 0; k < len(f.Clauses); k++ {
		d := f.Clauses[k]
		if slices.ContainsFunc(d, func(m int) bool { return slices.Contains(l, m) }) {
			continue
		}
		open := slices.DeleteFunc(slices.Clone(d), func(m int) bool { return slices.Contains(l, -m) })
		if len(open) == 0 {
			return true
		}
		if !slices.ContainsFunc(open, func(m int) bool { return m != open[0] }) {
			l = append(l, open[0])
			k = -1
		}
	}
	return false
}

// plainFollows: does c follow from f, by the chapter's words?
func plainFollows(f api.Formula, clause []int) bool {
	return clashing(f, against(clause))
}

// plainPartners: the partners of l in f, by the chapter's words.
func plainPartners(f api.Formula, l int) []int {
	var out []int
	for number, d := range f.Clauses {
		if slices.Contains(d, -l) {
			out = append(out, number)
		}
	}
	return out
}

// joined: the literals of a without p and of b without q, as they come.
func joined(a []int, p int, b []int, q int) []int {
	other := func(list []int, l int) []int {
		return slices.DeleteFunc(slices.Clone(list), func(m int) bool { return m == l })
	}
	return append(other(a, p), other(b, q)...)
}

// plainSafe: is c safe for f, by the chapter's words?
func plainSafe(f api.Formula, clause []int) bool {
	if len(clause) == 0 {
		return false
	}
	p := clause[0]
	return !slices.ContainsFunc(plainPartners(f, p), func(number int) bool {
		return !plainFollows(f, joined(clause, 0, f.Clauses[number], -p))
	})
}

// plainBlocked: what Blocked is to answer.
func plainBlocked(f api.Formula, clause []int) bool {
	if len(clause) == 0 {
		return false
	}
	p := clause[0]
	return !slices.ContainsFunc(plainPartners(f, p), func(number int) bool {
		return !beside(joined(clause, p, f.Clauses[number], -p))
	})
}

// plainKind: what Kind is to answer.
func plainKind(f api.Formula, clause []int) int {
	switch {
	case plainFollows(f, clause):
		return rup.Rup
	case plainSafe(f, clause):
		return rup.Rat
	}
	return rup.None
}

// follows says where Follows answers something else.
func follows(t *testing.T, f api.Formula, clause []int, want bool) {
	t.Helper()
	if got, e := rup.Follows(f, clause); e != api.OK || got != want {
		t.Errorf("Follows(%s) = %v, error %d", shown(f, clause), got, e)
	}
}

// safe says where Safe answers something else.
func safe(t *testing.T, f api.Formula, clause []int, want bool) {
	t.Helper()
	if got, e := rup.Safe(f, clause); e != api.OK || got != want {
		t.Errorf("Safe(%s) = %v, error %d", shown(f, clause), got, e)
	}
}

// kind says where Kind answers something else.
func kind(t *testing.T, f api.Formula, clause []int, want int) {
	t.Helper()
	if got, e := rup.Kind(f, clause); e != api.OK || got != want {
		t.Errorf("Kind(%s) = %d, error %d, not %d", shown(f, clause), got, e, want)
	}
}

// partners says where Partners answers something else.
func partners(t *testing.T, f api.Formula, l int, want ...int) {
	t.Helper()
	if got := rup.Partners(f, l); !slices.Equal(got, want) {
		t.Errorf("Partners(%s) = %v, not %v", shown(f, c(l)), got, want)
	}
}

// blocked says where Blocked answers something else.
func blocked(t *testing.T, f api.Formula, clause []int, want bool) {
	t.Helper()
	if got, e := rup.Blocked(f, clause); e != api.OK || got != want {
		t.Errorf("Blocked(%s) = %v, error %d", shown(f, clause), got, e)
	}
}

// agrees says where a call of a formula and a clause answers otherwise than the chapter's words do.
func agrees(t *testing.T, f api.Formula, clause []int) {
	t.Helper()
	follows(t, f, clause, plainFollows(f, clause))
	safe(t, f, clause, plainSafe(f, clause))
	kind(t, f, clause, plainKind(f, clause))
	blocked(t, f, clause, plainBlocked(f, clause))
	for _, l := range clause {
		partners(t, f, l, plainPartners(f, l)...)
	}
}

// small: all formulas of three variables with at most so many clauses of a few.
func small(most int) []api.Formula {
	pool := [][]int{c(), c(1), c(-1), c(2), c(-2, -2), c(1, 2), c(-1, 2), c(2, -1, 2), c(-1, -2), c(1, -1), c(-2, 3, 2), c(-1, -2, 3), c(-1, 1, 3), c(3, 1), c(-3)}
	out := []api.Formula{form(3)}
	for from := 0; most > 0; most-- {
		to := len(out)
		for _, f := range out[from:to] {
			for _, clause := range pool {
				out = append(out, form(3, append(slices.Clone(f.Clauses), clause)...))
			}
		}
		from = to
	}
	return out
}

// someClauses: clauses at the edges that the document names.
func someClauses() [][]int {
	return [][]int{
		nil, c(), c(1), c(-1), c(2), c(-3), c(1, 2), c(2, 1), c(-1, 2), c(1, -2), c(-2, 1), c(-3, -1), c(1, -2, 3), c(1, 2, -3),
		c(1, 1), c(1, -2, 1), c(-2, 1, 1, -2), c(1, -1), c(-1, 1), c(2, 1, -2), c(1, -1, 2), c(1, 3, -3),
		c(4), c(-9, 1), c(1, 9), c(1, -9, -2), c(api.MaxVar), c(-1, api.MaxVar), c(-api.MaxVar, -2), c(8, -8), c(1, 8, -8),
	}
}

// drawer draws numbers that are the same each time.
type drawer struct{ state uint64 }

func drawn(seed uint64) *drawer { return &drawer{seed*2654435761 + 12345} }

// Intn: a number from 0 to n - 1.
func (d *drawer) Intn(n int) int {
	d.state = d.state*6364136223846793005 + 1442695040888963407
	return int(d.state>>33) % n
}

// list: so many literals of the variables 1 to vars, some of them twice.
func (d *drawer) list(vars, n int) []int {
	var out []int
	for range n {
		out = append(out, lits.At(d.Intn(2*vars)))
	}
	return out
}

// longer: a formula whose clauses are mostly long enough to say nothing by themselves, and a clause.
func (d *drawer) longer() (api.Formula, []int) {
	vars := 3 + d.Intn(7)
	f := form(vars)
	for range d.Intn(4 * vars) {
		n := 1 + d.Intn(4)
		if n == 1 && d.Intn(4) > 0 {
			n = 3
		}
		f.Clauses = append(f.Clauses, d.list(vars, n))
	}
	clause := d.list(vars, d.Intn(5))
	if d.Intn(4) == 0 {
		clause = append(clause, d.list(vars+3, 1)...)
	}
	return f, clause
}
