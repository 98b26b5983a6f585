package under_test

import (
	"fmt"
	"math"
	"slices"
	"testing"

	"depot/api"
	"depot/lits"
	"depot/pace"
	"depot/under"
)

// within: the answer with a Budget is what P18.1 says of that and of the answer without a bound.
func within(t *testing.T, f api.Formula, assume []int, config api.Config, o api.Outcome, failed []int, b int) {
	t.Helper()
	config.Budget = b
	want, some := o, failed
	if b >= 0 && o.Conflicts > b {
		want, some = api.Outcome{End: api.Out, Conflicts: b}, nil
	}
	if got, gone, e := under.Solve(f, assume, config); e != api.OK || !same(got, want) || !slices.Equal(gone, some) {
		t.Fatalf("Solve(%v, %v, %v) = %v, %v, %d; without a bound %v, %v", f, assume, config, got, gone, e, o, failed)
	}
}

// budgets: a call with Budgets of all kinds; how many conflicts there are without a bound.
func budgets(t *testing.T, f api.Formula, assume []int, config api.Config) int {
	t.Helper()
	config.Budget = -1
	o, failed := answered(t, f, assume, config)
	if o.End == api.Out {
		t.Fatalf("Solve(%v, %v, %v) is Out", f, assume, config)
	}
	n := o.Conflicts
	list := []int{-1, -2, -7, -api.MaxPace, math.MinInt + 1, math.MinInt, 0, 1, 2, n / 2, n, n + 1, n + 2, 2*n + 3, api.MaxPace, math.MaxInt - 1, math.MaxInt}
	if n > 0 {
		list = append(list, n-1)
	}
	if f.Vars < 18 {
		list = append(list, bound(f.Vars)-1, bound(f.Vars), bound(f.Vars)+1)
	}
	for _, b := range list {
		within(t, f, assume, config, o, failed, b)
	}
	return n
}

// P18.1: Budgets of all formulas of two variables, with all lists of up to two literals.
func TestBudgetsOfPairs(t *testing.T) {
	for k, f := range pairs() {
		for i, assume := range rows(2) {
			budgets(t, f, assume, configs()[(k+i)%len(configs())])
		}
	}
}

// P18.1: drawn formulas, literals and configs, models and proofs behind conflicts, of none and of many.
func TestBudgetsOfDrawn(t *testing.T) {
	ends := map[int]int{}
	for seed := range uint64(700) {
		draw := drawn(seed + 100)
		f := draw.hard(3 + draw.Intn(45))
		assume := draw.literals(f.Vars, 4)
		config := draw.config()
		if n := budgets(t, f, assume, config); n > 5 && len(assume) > 0 {
			o, _ := answered(t, f, assume, config)
			ends[o.End]++
		}
	}
	if ends[api.Sat] < 20 || ends[api.Unsat] < 60 {
		t.Errorf("with many conflicts only %v", ends)
	}
}

// P18.1: each Budget up to more than the conflicts, of one formula and several configs.
func TestEachBudget(t *testing.T) {
	for k, config := range configs() {
		f, keys := ifAll(pigeons(3), 2)
		if k%2 == 0 {
			f, keys = drawn(uint64(k)).hard(30), c(3, -7)
		}
		o, failed := answered(t, f, keys, config)
		for b := range o.Conflicts + 4 {
			within(t, f, keys, config, o, failed, b)
		}
	}
}

// P18.1: a Budget of 0 is enough where unit clauses alone say it; where more is needed, it isn't.
func TestNoBudget(t *testing.T) {
	config := configs()[0]
	config.Budget = 0
	ends(t, form(3, c(-1, 2), c(-2, 3)), c(1, -3), config, api.Unsat)
	ends(t, form(3, c(-1, 2), c(-2, 3)), c(1), config, api.Sat)
	ends(t, form(3), c(2, -2), config, api.Unsat)
	f, keys := ifAll(pigeons(4), 3)
	ends(t, f, keys, config, api.Out)
}

// text: one text of all clauses that are the same.
func text(clause []int) string { return fmt.Sprint(lits.Tidy(clause)) }

// P18.1, what the bound rests on: from each conflict a clause is learnt (and behind them the ban) that isn't there yet; clauses are cleared only where Clear says so.
func TestWhatTheBoundRestsOn(t *testing.T) {
	adds, drops := 0, 0
	for seed := range uint64(300) {
		draw := drawn(seed + 300)
		f, config := draw.hard(20+draw.Intn(40)), draw.config()
		o, _ := answered(t, f, c(draw.literal(f.Vars)), config)
		if o.End != api.Unsat {
			continue
		}
		beats, _ := pace.Plan(config, o.Conflicts)
		there := map[string]int{}
		for _, d := range f.Clauses {
			there[text(d)]++
		}
		learnt := 0
		for _, s := range o.Proof[:len(o.Proof)-1] {
			switch {
			case s.Drop && !slices.Contains(beats, api.Beat{Conflicts: learnt, Clear: true}):
				t.Fatalf("Solve(%v, %v): %v is cleared behind %d conflicts", f, config, s.Lits, learnt)
			case s.Drop:
				there[text(s.Lits)]--
				drops++
			case there[text(s.Lits)] > 0:
				t.Fatalf("Solve(%v, %v): %v is learnt and there already", f, config, s.Lits)
			default:
				there[text(s.Lits)]++
				learnt++
			}
		}
		if learnt != o.Conflicts {
			t.Fatalf("Solve(%v, %v): %d conflicts, %d clauses learnt", f, config, o.Conflicts, learnt)
		}
		adds += learnt
	}
	if adds < 1000 || drops < 100 {
		t.Errorf("%d clauses learnt, %d cleared", adds, drops)
	}
}

// P18.1: the bound, where it is least: few variables, clearings as often as can be.
func TestBound(t *testing.T) {
	for seed := range uint64(3000) {
		draw := drawn(seed + 500)
		vars := 1 + draw.Intn(4)
		f, config := draw.formula(vars, 2+draw.Intn(20)), draw.config()
		assume := draw.literals(vars, 3)
		answered(t, f, assume, config)
		config.Budget = bound(vars)
		if o, _ := answered(t, f, assume, config); o.End == api.Out {
			t.Fatalf("Solve(%v, %v, %v) is Out", f, assume, config)
		}
	}
}

// P18.1: no Budget is handed on from one call to another.
func TestBudgetsBesideOneAnother(t *testing.T) {
	f, keys := ifAll(pigeons(3), 2)
	free, bare := configs()[0], configs()[0]
	bare.Budget = 1
	o, failed := ends(t, f, keys, free, api.Unsat)
	for range 4 {
		ends(t, f, keys, bare, api.Out)
		within(t, f, keys, free, o, failed, -1)
	}
}
