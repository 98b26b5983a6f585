package under_test

import (
	"math"
	"slices"
	"testing"

	"depot/api"
	"depot/cnf"
	"depot/solve"
	"depot/under"
)

// upTo: the numbers from 1 to n, each times sign.
func upTo(n, sign int) []int {
	var out []int
	for v := 1; v <= n; v++ {
		out = append(out, sign*v)
	}
	return out
}

// chain: a formula of so many variables, each saying the next.
func chain(n int) api.Formula {
	f := form(n)
	for v := 1; v < n; v++ {
		f.Clauses = append(f.Clauses, c(-v, v+1))
	}
	return f
}

// Any argument: the greatest number of variables, all of them in clauses, so that none is left to be made use of; and as many literals.
func TestManyVariables(t *testing.T) {
	const n = api.MaxVar
	u := solve.Usual()
	f := chain(n)
	ends(t, form(n), upTo(n, -1), u, api.Sat)
	ends(t, f, upTo(n, 1), u, api.Sat)
	if o, _ := ends(t, f, c(n, 1), u, api.Sat); slices.Contains(o.Model, false) {
		t.Error("the model is another one")
	}
	if _, failed := ends(t, f, c(n/2, 1, -n), u, api.Unsat); failed[len(failed)-1] != -n {
		t.Errorf("failed: %v", failed)
	}
	if _, failed := least(t, f, c(n/2, 1, 7, -n), u); len(failed) != 2 || failed[1] != -n {
		t.Errorf("failed: %v", failed)
	}
	f.Clauses = append(f.Clauses, c(-n, -1), c(1, n), c(1, 2), c(-n, -2))
	ends(t, f, c(n-1), u, api.Unsat)
	ends(t, f, c(-n, 3), u, api.Unsat)
}

// Any argument: a long clause, all of whose literals are to be false; and literals that stand there very often.
func TestLongLists(t *testing.T) {
	const n = 100000
	f := form(n, upTo(n, 1))
	u := solve.Usual()
	assume := upTo(n, -1)
	if _, failed := ends(t, f, assume[1:], u, api.Sat); len(failed) != 0 {
		t.Errorf("%d failed", len(failed))
	}
	o, failed, e := under.Solve(f, slices.Concat(assume, assume, assume), u)
	if e != api.OK || o.End != api.Unsat || !slices.Equal(failed, assume) || !under.Holds(f, failed, o.Proof) {
		t.Errorf("End %d, %d failed, error %d", o.End, len(failed), e)
	}
	assume[n-1] = 1
	if o, failed, e := under.Solve(f, assume, u); e != api.OK || o.End != api.Unsat || !slices.Equal(failed, c(-1, 1)) {
		t.Errorf("End %d, %v failed, error %d", o.End, failed, e)
	}
	// A hundred that are all needed, among a hundred others.
	short := form(200, upTo(100, 1))
	if o, failed := least(t, short, append(upTo(200, 1)[100:], upTo(100, -1)...), u); o.End != api.Unsat || len(failed) != 100 {
		t.Errorf("End %d, %d failed", o.End, len(failed))
	}
}

// Any argument: many clashes of few entries among very many that stay: what a clash, or a restart behind it, costs is not all that is true.
func TestSmallClashesAmongMany(t *testing.T) {
	const n, more = 2000, 200000
	// 1 says all of a long chain; of the last 2 n each second one can't be, if 1 is.
	f := form(2 + more + 2*n)
	f.Clauses = append(f.Clauses, c(-1, 3))
	for v := 3; v < 2+more; v++ {
		f.Clauses = append(f.Clauses, c(-v, v+1))
	}
	for v := 2 + more + 1; v <= f.Vars; v += 2 {
		f.Clauses = append(f.Clauses, c(-v, v+1, -1), c(-v, -v-1, -1))
	}
	config := solve.Usual()
	config.Phase = api.PhaseTrue
	for _, assume := range [][]int{c(1), c(2), c(2, 1)} {
		if o, _ := ends(t, f, assume, config, api.Sat); o.Conflicts < n {
			t.Errorf("%d conflicts", o.Conflicts)
		}
	}
	config.Base = 1
	if o, _ := ends(t, f, c(2, 1), config, api.Sat); o.Conflicts < n {
		t.Errorf("%d conflicts", o.Conflicts)
	}
}

// Any argument: a search of thousands of conflicts, whose proof has many clearings.
func TestManyConflicts(t *testing.T) {
	f, keys := ifAll(pigeons(7), 5)
	config := api.Config{Base: 20, First: 100, Grow: 10, Decay: 0.9, Phase: api.PhaseTrue, Budget: -1}
	o, failed := ends(t, f, keys, config, api.Unsat)
	if o.Conflicts < 1000 || !slices.Equal(failed, keys) {
		t.Errorf("%d conflicts, failed %v", o.Conflicts, failed)
	}
	for _, b := range []int{o.Conflicts - 1, o.Conflicts} {
		within(t, f, keys, config, o, failed, b)
	}
}

// Any argument: numbers at the edges of what an int can hold.
func TestExtremes(t *testing.T) {
	edges := []int{math.MinInt, math.MinInt + 1, -1, 0, 1, 2, math.MaxInt - 1, math.MaxInt}
	for _, a := range edges {
		for _, b := range edges {
			config := api.Config{Base: a, First: b, Grow: a, Decay: 0.9, Phase: 1 + (a&1 + b&1), Budget: b}
			for _, f := range []api.Formula{form(a, c(b)), form(2, c(a, b)), form(2, c(1, 2)), none()} {
				for _, config := range []api.Config{config, solve.Usual()} {
					o, _, e := under.Solve(f, c(a, b), config)
					if e == api.OK && o.End == api.Sat && !cnf.Satisfies(f, o.Model) {
						t.Errorf("Solve(%v, %d %d, %v) = %v", f, a, b, config, o)
					}
					under.Least(f, c(b, a), config)
				}
				under.Holds(f, c(a, b), []api.Step{add(a), drop(b), add(-a, -b)})
			}
		}
	}
}
