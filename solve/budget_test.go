package solve_test

import (
	"fmt"
	"math"
	"slices"
	"testing"

	"depot/api"
	"depot/lits"
	"depot/pace"
	"depot/solve"
)

// within: the outcome with a Budget is what P17.2 says of that and of the outcome without a bound.
func within(t *testing.T, f api.Formula, config api.Config, o api.Outcome, b int) {
	t.Helper()
	config.Budget = b
	want := o
	if b >= 0 && o.Conflicts > b {
		want = api.Outcome{End: api.Out, Conflicts: b}
	}
	if got, e := solve.Solve(f, config); e != api.OK || !same(got, want) {
		t.Fatalf("Solve(%v, %v) = %v, %d; without a bound %v", f, config, got, e, o)
	}
}

// budgets: a formula and a config with Budgets of all kinds; how many conflicts there are without a bound.
func budgets(t *testing.T, f api.Formula, config api.Config) int {
	t.Helper()
	config.Budget = -1
	o := solved(t, f, config)
	n := o.Conflicts
	for _, b := range []int{-1, -2, -7, -api.MaxPace, math.MinInt + 1, math.MinInt} {
		within(t, f, config, o, b)
	}
	for _, b := range []int{0, 1, 2, n / 2, n - 2, n - 1, n, n + 1, n + 2, 2*n + 3, api.MaxPace, math.MaxInt - 1, math.MaxInt} {
		if b >= 0 {
			within(t, f, config, o, b)
		}
	}
	if f.Vars < 18 {
		most := bound(f.Vars)
		if n > most {
			t.Fatalf("Solve(%v, %v): %d conflicts, %d at most", f, config, n, most)
		}
		for _, b := range []int{most - 1, most, most + 1} {
			within(t, f, config, o, b)
		}
	}
	return n
}

// P17.2: all formulas of two variables, and those of fewer.
func TestBudgetsOfPairs(t *testing.T) {
	list := append(pairs(), form(0), form(0, c()), form(1), form(1, c()), form(1, c(1)), form(1, c(1), c(-1)), form(1, c(1, -1), c(-1)))
	for _, f := range list {
		for _, config := range configs() {
			budgets(t, f, config)
		}
	}
}

// P17.2: drawn formulas and configs, models and proofs behind conflicts, of none and of many.
func TestBudgetsOfDrawn(t *testing.T) {
	many := 0
	for seed := range uint64(600) {
		draw := drawn(seed + 100)
		f := draw.hard(3 + draw.Intn(40))
		if budgets(t, f, draw.config()) > 10 {
			many++
		}
	}
	if many < 100 {
		t.Errorf("only %d with many conflicts", many)
	}
}

// P17.2: each Budget up to more than the conflicts, of one formula and several configs.
func TestEachBudget(t *testing.T) {
	for k, config := range configs() {
		f := pigeons(3)
		if k%2 == 0 {
			f = drawn(uint64(k)).hard(14)
		}
		o := solved(t, f, config)
		for b := range o.Conflicts + 4 {
			within(t, f, config, o, b)
		}
	}
}

// P17.2, what the bound rests on: a clause is learnt from each conflict (and the empty one at the end) that isn't there yet; clauses are cleared only where Clear says so.
func TestWhatTheBoundRestsOn(t *testing.T) {
	adds, drops := 0, 0
	for seed := range uint64(300) {
		draw := drawn(seed + 300)
		f, config := draw.hard(20+draw.Intn(30)), draw.config()
		o := solved(t, f, config)
		if o.End != api.Unsat {
			continue
		}
		beats, _ := pace.Plan(config, o.Conflicts)
		there := map[string]int{}
		for _, d := range f.Clauses {
			there[text(d)]++
		}
		learnt := 0
		for _, s := range o.Proof {
			switch {
			case s.Drop && !slices.Contains(beats, api.Beat{Conflicts: learnt, Clear: true}):
				t.Fatalf("Solve(%v, %v): %v is cleared behind %d conflicts", f, config, s.Lits, learnt)
			case s.Drop:
				there[text(s.Lits)]--
				drops++
			case there[text(s.Lits)] > 0:
				t.Fatalf("Solve(%v, %v): %v is learnt and there already", f, config, s.Lits)
			default:
				there[text(s.Lits)]++
				learnt++
			}
		}
		if learnt != o.Conflicts+1 {
			t.Fatalf("Solve(%v, %v): %d conflicts, %d clauses learnt", f, config, o.Conflicts, learnt)
		}
		adds += learnt
	}
	if adds < 1000 || drops < 100 {
		t.Errorf("%d clauses learnt, %d cleared", adds, drops)
	}
}

// text: one text of all clauses that are the same.
func text(clause []int) string { return fmt.Sprint(lits.Tidy(clause)) }

// P17.2: the bound, where it is least: few variables, clearings as often as can be.
func TestBound(t *testing.T) {
	for seed := range uint64(3000) {
		draw := drawn(seed + 500)
		vars := 1 + draw.Intn(4)
		f := draw.formula(vars, 2+draw.Intn(20))
		config := draw.config()
		o := solved(t, f, config)
		if o.Conflicts > bound(vars) {
			t.Fatalf("Solve(%v, %v): %d conflicts", f, config, o.Conflicts)
		}
		config.Budget = bound(vars)
		if o = solved(t, f, config); o.End == api.Out {
			t.Fatalf("Solve(%v, %v) is Out", f, config)
		}
	}
}

// P17.2: no Budget is handed on from one call to another.
func TestBudgetsBesideOneAnother(t *testing.T) {
	f, free, bare := pigeons(3), solve.Usual(), solve.Usual()
	bare.Budget = 1
	o := ends(t, f, free, api.Unsat)
	for range 4 {
		ends(t, f, bare, api.Out)
		if got := ends(t, f, free, api.Unsat); !same(got, o) {
			t.Errorf("Solve = %v, was %v", got, o)
		}
	}
}
