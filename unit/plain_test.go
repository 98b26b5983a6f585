package unit_test

import (
	"slices"
	"testing"

	"depot/api"
	"depot/lits"
	"depot/unit"
)

// form: a formula of so many variables and these clauses.
func form(vars int, clauses ...[]int) api.Formula {
	return api.Formula{Vars: vars, Clauses: clauses}
}

// c: a clause, or facts.
func c(literals ...int) []int {
	return literals
}

// How a clause stands under a list of literals.
const (
	isOpen = iota
	isTrue
	isFalse
	isUnit
)

// stands: how a clause stands under L, by the chapter's words one by one, and the literal of a unit one.
func stands(clause, l []int) (how, on int) {
	if slices.ContainsFunc(clause, func(k int) bool { return slices.Contains(l, k) }) {
		return isTrue, 0
	}
	against := func(k int) bool { return slices.Contains(l, -k) }
	if !slices.ContainsFunc(clause, func(k int) bool { return !against(k) }) {
		return isFalse, 0
	}
	for _, k := range clause {
		other := func(m int) bool { return m != k && !against(m) }
		if !against(k) && !slices.ContainsFunc(clause, other) {
			return isUnit, k
		}
	}
	return isOpen, 0
}

// ending is how a closing ended: what was put to L, the clause that was false (-1: none), and L.
type ending struct {
	causes []api.Cause
	clause int
	l      []int
}

// plain: the closing by the chapter's words, from facts that hold no literal beside its opposite; of the clauses that are false or unit the one is taken that is picked.
func plain(f api.Formula, facts []int, pick func(n int) int) ending {
	end := ending{clause: -1, l: slices.Clone(facts)}
	for {
		var ready []int
		for number, clause := range f.Clauses {
			if how, _ := stands(clause, end.l); how == isFalse || how == isUnit {
				ready = append(ready, number)
			}
		}
		if len(ready) == 0 {
			return end
		}
		number := ready[pick(len(ready))]
		how, on := stands(f.Clauses[number], end.l)
		if how == isFalse {
			end.clause = number
			return end
		}
		end.l = append(end.l, on)
		end.causes = append(end.causes, api.Cause{Lit: on, Clause: number})
	}
}

// least picks the first, last the last of those that are ready.
func least(int) int  { return 0 }
func last(n int) int { return n - 1 }

// clashing: does a literal stand among the facts beside its opposite?
func clashing(facts []int) bool {
	return slices.ContainsFunc(facts, func(l int) bool { return slices.Contains(facts, -l) })
}

// byIndex: the literals, each once, in the order 1, -1, 2, -2, ..
func byIndex(l []int) []int {
	out := slices.Clone(l)
	slices.SortFunc(out, func(a, b int) int {
		if max(a, -a) != max(b, -b) {
			return max(a, -a) - max(b, -b)
		}
		return b - a
	})
	return slices.Compact(out)
}

// closed: what Close is to answer.
func closed(f api.Formula, facts []int) ([]int, bool) {
	if clashing(facts) {
		return nil, true
	}
	end := plain(f, facts, least)
	if end.clause >= 0 {
		return nil, true
	}
	return byIndex(end.l), false
}

// probed: what Probe is to answer.
func probed(f api.Formula) []int {
	var out []int
	for v := 1; v <= f.Vars; v++ {
		for _, l := range c(v, -v) {
			if _, clash := closed(f, c(l)); clash {
				out = append(out, l)
			}
		}
	}
	return out
}

// closes says where Close answers something else.
func closes(t *testing.T, f api.Formula, facts, want []int, clash bool) {
	t.Helper()
	if got, is, e := unit.Close(f, facts); e != api.OK || is != clash || !slices.Equal(got, want) {
		t.Errorf("Close(%v; %v) = %v, %v, error %d, not %v, %v", f, facts, got, is, e, want, clash)
	}
}

// explains says where Why answers something else.
func explains(t *testing.T, f api.Formula, facts []int, clause int, want ...api.Cause) {
	t.Helper()
	if got, at, e := unit.Why(f, facts); e != api.OK || at != clause || !slices.Equal(got, want) {
		t.Errorf("Why(%v; %v) = %v, %d, error %d, not %v, %d", f, facts, got, at, e, want, clause)
	}
}

// forces says where Forces answers something else.
func forces(t *testing.T, f api.Formula, facts []int, l int, want bool) {
	t.Helper()
	if got, e := unit.Forces(f, facts, l); e != api.OK || got != want {
		t.Errorf("Forces(%v; %v; %d) = %v, error %d", f, facts, l, got, e)
	}
}

// probes says where Probe answers something else.
func probes(t *testing.T, f api.Formula, want ...int) {
	t.Helper()
	if got, e := unit.Probe(f); e != api.OK || !slices.Equal(got, want) {
		t.Errorf("Probe(%v) = %v, error %d, not %v", f, got, e, want)
	}
}

// agrees says where a call of a formula and facts answers otherwise than the chapter's words do.
func agrees(t *testing.T, f api.Formula, facts []int) {
	t.Helper()
	want, clash := closed(f, facts)
	closes(t, f, facts, want, clash)
	if !clashing(facts) {
		end := plain(f, facts, least)
		explains(t, f, facts, end.clause, end.causes...)
	}
	for i := range 2*f.Vars + 4 {
		l := lits.At(i)
		forces(t, f, facts, l, clash || slices.Contains(want, l))
	}
}

// small: all formulas of three variables with at most so many clauses of a few.
func small(most int) []api.Formula {
	pool := [][]int{c(), c(1), c(-1), c(2), c(-2, -2), c(1, 2), c(-1, 2), c(2, 1, 2), c(-1, -2), c(1, -1), c(-2, 3, 2), c(-1, -2, 3), c(3, 1), c(-3)}
	out := []api.Formula{form(3)}
	for from := 0; most > 0; most-- {
		to := len(out)
		for _, f := range out[from:to] {
			for _, clause := range pool {
				out = append(out, form(3, append(slices.Clone(f.Clauses), clause)...))
			}
		}
		from = to
	}
	return out
}

// someFacts: lists of facts, at the edges that the document names.
func someFacts() [][]int {
	return [][]int{nil, c(), c(1), c(-1), c(2), c(-3), c(1, 1), c(-2, 1), c(2, -3, 2), c(1, -1), c(-2, 3, 2), c(9), c(-7, 1), c(api.MaxVar), c(-api.MaxVar, -3), c(8, -8)}
}

// drawer draws numbers that are the same each time.
type drawer struct{ state uint64 }

func drawn(seed uint64) *drawer { return &drawer{seed*2654435761 + 12345} }

// Intn: a number from 0 to n - 1.
func (d *drawer) Intn(n int) int {
	d.state = d.state*6364136223846793005 + 1442695040888963407
	return int(d.state>>33) % n
}

// literal: a literal of the variables 1 to vars.
func (d *drawer) literal(vars int) int {
	return lits.At(d.Intn(2 * vars))
}

// list: so many literals of the variables 1 to vars, some of them twice.
func (d *drawer) list(vars, n int) []int {
	var out []int
	for range n {
		out = append(out, d.literal(vars))
	}
	return out
}

// formula: so many clauses of one to most literals.
func (d *drawer) formula(vars, clauses, most int) api.Formula {
	f := form(vars)
	for range clauses {
		f.Clauses = append(f.Clauses, d.list(vars, 1+d.Intn(most)))
	}
	return f
}

// longer: a formula of clauses that are mostly long enough for some closings to end well, and facts.
func (d *drawer) longer() (api.Formula, []int) {
	vars := 4 + d.Intn(8)
	f := d.formula(vars, d.Intn(4*vars), 4)
	for k := range f.Clauses {
		if len(f.Clauses[k]) == 1 && d.Intn(4) > 0 {
			f.Clauses[k] = append(f.Clauses[k], d.list(vars, 2)...)
		}
	}
	return f, d.list(vars+2, d.Intn(4))
}
