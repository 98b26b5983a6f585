package solve_test

import (
	"math"
	"slices"
	"testing"

	"depot/api"
	"depot/cnf"
	"depot/solve"
)

// phased: the usual config with another Phase.
func phased(phase int) api.Config {
	u := solve.Usual()
	u.Phase = phase
	return u
}

// chain: a formula of so many variables, each saying the next.
func chain(n int) api.Formula {
	f := form(n)
	for v := 1; v < n; v++ {
		f.Clauses = append(f.Clauses, c(-v, v+1))
	}
	return f
}

// Any argument: the greatest number of variables: nothing said of them, each saying the next, and a clash at the end of that.
func TestManyVariables(t *testing.T) {
	const n = api.MaxVar
	f := chain(n)
	f.Clauses = append(f.Clauses, c(-n, -1), c(1, n))
	for _, phase := range []int{api.PhaseFalse, api.PhaseTrue, api.PhaseKept} {
		ends(t, form(n), phased(phase), api.Sat)
		if o := ends(t, f, phased(phase), api.Sat); o.Model[0] || !o.Model[n-1] {
			t.Error("the model is another one")
		}
	}
	f.Clauses = append(f.Clauses, c(1, 2), c(-n, -2))
	ends(t, f, solve.Usual(), api.Unsat)
	if list, _ := listed(t, chain(n), n, 3, solve.Usual()); len(list) != 3 {
		t.Errorf("%d models", len(list))
	}
}

// Any argument: a long clause, and one for each of its literals that says that it is false.
func TestLongClause(t *testing.T) {
	const n = 100000
	var long []int
	for v := 1; v <= n; v++ {
		long = append(long, v)
	}
	f := form(n, long)
	if o := ends(t, f, phased(api.PhaseFalse), api.Sat); !slices.Contains(o.Model, true) {
		t.Error("all are false")
	}
	for v := 1; v <= n; v++ {
		f.Clauses = append(f.Clauses, c(-v))
	}
	ends(t, f, solve.Usual(), api.Unsat)
}

// Any argument: many clashes of few entries among very many that stay: what a clash costs is not all that is true, nor all that was taken.
func TestSmallClashesAmongMany(t *testing.T) {
	const n, more = 2000, 200000
	// 1 says all of a long chain; 2 is decided ahead of the chain's, and goes with each clash; of the last 2 n each second one can't be, if 1 is.
	f := form(2 + more + 2*n)
	f.Clauses = append(f.Clauses, c(-1, 3))
	for v := 3; v < 2+more; v++ {
		f.Clauses = append(f.Clauses, c(-v, v+1))
	}
	for v := 2 + more + 1; v <= f.Vars; v += 2 {
		f.Clauses = append(f.Clauses, c(-v, v+1, -1), c(-v, -v-1, -1))
	}
	for _, phase := range []int{api.PhaseFalse, api.PhaseTrue, api.PhaseKept} {
		if o := ends(t, f, phased(phase), api.Sat); (o.Conflicts >= n) != (phase == api.PhaseTrue) {
			t.Errorf("%d conflicts", o.Conflicts)
		}
	}
}

// Any argument: a search of tens of thousands of conflicts, whose proof has many clearings.
func TestManyConflicts(t *testing.T) {
	f := pigeons(7)
	config := api.Config{Base: 20, First: 100, Grow: 10, Decay: 0.9, Phase: api.PhaseTrue, Budget: -1}
	o, e := solve.Solve(f, config)
	if e != api.OK || o.End != api.Unsat {
		t.Fatalf("End %d, error %d", o.End, e)
	}
	proves(t, f, o.Proof)
	for _, b := range []int{o.Conflicts - 1, o.Conflicts} {
		within(t, f, config, o, b)
	}
}

// Any argument: numbers at the edges of what an int can hold.
func TestExtremes(t *testing.T) {
	edges := []int{math.MinInt, math.MinInt + 1, -1, 0, 1, math.MaxInt - 1, math.MaxInt}
	for _, a := range edges {
		for _, b := range edges {
			config := api.Config{Base: a, First: b, Grow: a, Decay: 0.9, Phase: 1 + (a&1 + b&1), Budget: b}
			for _, f := range []api.Formula{form(a, c(b)), form(2, c(a, b)), form(2, c(1, 2)), none()} {
				o, e := solve.Solve(f, config)
				if e == api.OK && o.End == api.Sat && !cnf.Satisfies(f, o.Model) {
					t.Errorf("Solve(%v, %v) = %v", f, config, o)
				}
				solve.All(f, a, b, config)
				solve.All(f, a, b, solve.Usual())
			}
		}
	}
}
