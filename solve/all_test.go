package solve_test

import (
	"math"
	"slices"
	"testing"

	"depot/api"
	"depot/cnf"
	"depot/solve"
)

// key: the first truths of a model as a text.
func key(m []bool, vars int) string {
	out := make([]byte, vars)
	for k := range vars {
		out[k] = '0'
		if m[k] {
			out[k] = '1'
		}
	}
	return string(out)
}

// kinds: how many models there are, no two alike on the first variables, found by going through all; each by its key.
func kinds(f api.Formula, vars int) map[string]int {
	out := map[string]int{}
	for m := range cnf.Models(f) {
		out[key(m, vars)]++
	}
	return out
}

// listed: All's list of what is to be refused by nobody but for want of budget, held against P17.4.
func listed(t *testing.T, f api.Formula, vars, most int, config api.Config) ([][]bool, api.Errno) {
	t.Helper()
	list, e := solve.All(f, vars, most, config)
	if e == api.ErrRoom && config.Budget >= 0 {
		if len(list) != 0 {
			t.Fatalf("All(%v, %d, %d, %v): %v beside a refusal", f, vars, most, config, list)
		}
		return nil, e
	}
	if e != api.OK || len(list) > most {
		t.Fatalf("All(%v, %d, %d, %v) = %v, %d", f, vars, most, config, list, e)
	}
	seen := map[string]int{}
	for _, m := range list {
		if !cnf.Satisfies(f, m) {
			t.Fatalf("All(%v, %d, %d, %v): %v is no model", f, vars, most, config, m)
		}
		if seen[key(m, vars)]++; seen[key(m, vars)] > 1 {
			t.Fatalf("All(%v, %d, %d, %v): two are alike: %v", f, vars, most, config, list)
		}
	}
	return list, e
}

// gathers: besides, none is missing.
func gathers(t *testing.T, f api.Formula, vars, most int, config api.Config) {
	t.Helper()
	list, e := listed(t, f, vars, most, config)
	if want := min(most, len(kinds(f, vars))); e == api.OK && len(list) != want {
		t.Fatalf("All(%v, %d, %d, %v): %d models, wanted %d", f, vars, most, config, len(list), want)
	}
}

// refusesAll: All answers nothing and that error.
func refusesAll(t *testing.T, f api.Formula, vars, most int, config api.Config, want api.Errno) {
	t.Helper()
	if list, e := solve.All(f, vars, most, config); len(list) != 0 || e != want {
		t.Errorf("All(%v, %d, %d, %v) = %v, %d; wanted %d", f, vars, most, config, list, e, want)
	}
}

// P17.4: a formula or a config that isn't well shaped goes ahead of numbers out of range.
func TestAllRefusesShapes(t *testing.T) {
	numbers := []int{0, 1, -1, 2, 5, math.MinInt, math.MaxInt}
	for _, vars := range numbers {
		for _, most := range numbers {
			for _, f := range badFormulas() {
				refusesAll(t, f, vars, most, solve.Usual(), api.ErrShape)
			}
			for _, config := range badConfigs() {
				refusesAll(t, form(2, c(1, 2)), vars, most, config, api.ErrShape)
				refusesAll(t, form(1, c(2)), vars, most, config, api.ErrShape)
			}
		}
	}
}

// P17.4: numbers out of range go ahead of a budget that is used up, also where there is nothing to be found.
func TestAllRefusesNumbers(t *testing.T) {
	for _, f := range []api.Formula{form(0), form(0, c()), form(1), form(2, c(1, 2)), none(), pigeons(3)} {
		for _, b := range []int{-1, 0, 3} {
			config := solve.Usual()
			config.Budget = b
			for _, vars := range []int{-1, -2, f.Vars + 1, f.Vars + 2, api.MaxVar + 1, math.MinInt, math.MaxInt} {
				for _, most := range []int{0, 1, 9, -1, math.MinInt, math.MaxInt} {
					refusesAll(t, f, vars, most, config, api.ErrRange)
				}
			}
			for _, most := range []int{-1, -9, math.MinInt} {
				refusesAll(t, f, 0, most, config, api.ErrRange)
				refusesAll(t, f, f.Vars, most, config, api.ErrRange)
			}
		}
	}
}

// The chapter's fourth example.
func TestAllExample(t *testing.T) {
	f, u := form(2, c(1, 2)), solve.Usual()
	for _, x := range []struct{ vars, most, want int }{{2, 9, 3}, {2, 2, 2}, {1, 9, 2}, {0, 9, 1}, {2, 0, 0}} {
		if list, _ := listed(t, f, x.vars, x.most, u); len(list) != x.want {
			t.Errorf("All of %v: %v", x, list)
		}
	}
	if list, _ := listed(t, form(1, c(1), c(-1)), 1, 5, u); len(list) != 0 {
		t.Errorf("models of a formula that has none: %v", list)
	}
	refusesAll(t, f, 3, 1, u, api.ErrRange)
	refusesAll(t, f, -1, 1, u, api.ErrRange)
	refusesAll(t, f, 1, -1, u, api.ErrRange)
}

// P17.4: all formulas of two variables, with each number of variables, and with most below, at and above the number of models.
func TestAllOfPairs(t *testing.T) {
	for _, f := range pairs() {
		for k, config := range configs() {
			for vars := range 3 {
				for _, most := range []int{0, 1, 2, 3, 4, 5, math.MaxInt} {
					if k%6 == most%6 {
						gathers(t, f, vars, most, config)
					}
				}
			}
		}
	}
}

// P17.4: drawn formulas and configs; vars 0, some and all; most 0, below, at and above the number of models.
func TestAllOfDrawn(t *testing.T) {
	many := 0
	for seed := range uint64(400) {
		draw := drawn(seed + 900)
		f := draw.loose(1 + draw.Intn(9))
		if seed%4 == 0 {
			f = draw.formula(1+draw.Intn(9), draw.Intn(9))
		}
		for _, vars := range []int{0, draw.Intn(f.Vars + 1), draw.Intn(f.Vars + 1), f.Vars} {
			n := len(kinds(f, vars))
			if n > 20 {
				many++
			}
			for _, most := range []int{0, 1, n / 2, n - 1, n, n + 1, n + 100, math.MaxInt} {
				if most >= 0 {
					gathers(t, f, vars, most, draw.config())
				}
			}
		}
	}
	if many < 100 {
		t.Errorf("only %d lists of many models", many)
	}
}

// P17.4: no variable and no clause, and the empty clause.
func TestAllOfNothing(t *testing.T) {
	for _, config := range configs() {
		gathers(t, form(0), 0, 0, config)
		gathers(t, form(0), 0, 5, config)
		gathers(t, form(0, c()), 0, 5, config)
		gathers(t, form(4), 4, 99, config)
		gathers(t, form(4), 2, 99, config)
		gathers(t, form(4, c()), 4, 99, config)
		gathers(t, form(4, c(2, -2, 2)), 3, 7, config)
	}
}

// P17.4: budgets that are used up: an ErrRoom or a right list; never an ErrRoom with a great Budget; and some of both with little ones.
func TestAllBudgets(t *testing.T) {
	out, ok := 0, 0
	for seed := range uint64(300) {
		draw := drawn(seed + 1300)
		f, config := draw.hard(3+draw.Intn(9)), draw.config()
		if seed%3 == 0 {
			f = draw.loose(3 + draw.Intn(6))
		}
		vars := draw.Intn(f.Vars + 1)
		for _, config.Budget = range []int{0, 1, 2, 3, 5, 8} {
			gathers(t, f, vars, 1<<20, config)
			if _, e := solve.All(f, vars, 1<<20, config); e == api.OK {
				ok++
			} else {
				out++
			}
		}
		for _, config.Budget = range []int{bound(f.Vars), bound(f.Vars) + 1, math.MaxInt, -3, math.MinInt} {
			gathers(t, f, vars, 1<<20, config)
			if _, e := solve.All(f, vars, 1<<20, config); e != api.OK {
				t.Fatalf("All(%v, %d, .., %v): error %d", f, vars, config, e)
			}
		}
	}
	if out < 100 || ok < 100 {
		t.Errorf("%d out, %d not", out, ok)
	}
}

// P17.4: a formula that can't be searched with the Budget is ErrRoom; where nothing is asked for no search is needed.
func TestAllOut(t *testing.T) {
	config, f := solve.Usual(), pigeons(4)
	n := ends(t, f, config, api.Unsat).Conflicts
	for _, config.Budget = range []int{0, 1, n / 2, n - 1} {
		refusesAll(t, f, f.Vars, 1, config, api.ErrRoom)
		refusesAll(t, f, 0, math.MaxInt, config, api.ErrRoom)
		refusesAll(t, f, 3, 0, config, api.OK)
	}
	for _, config.Budget = range []int{n, n + 1, -1} {
		refusesAll(t, f, f.Vars, 1, config, api.OK)
	}
}

// P17.4: models by the thousand; what a search costs doesn't grow with what was found.
func TestAllOfMany(t *testing.T) {
	list, _ := listed(t, form(api.MaxBrute), api.MaxBrute, math.MaxInt, solve.Usual())
	if len(list) != 1<<api.MaxBrute {
		t.Errorf("%d models", len(list))
	}
	list, _ = listed(t, form(400, c(1, 2)), 12, 1<<20, solve.Usual())
	if len(list) != 3<<10 {
		t.Errorf("%d models", len(list))
	}
	list, _ = listed(t, form(5000, c(-1, 5000)), 5000, 300, solve.Usual())
	if len(list) != 300 {
		t.Errorf("%d models", len(list))
	}
}

// P17.4: formulas of more variables than can be gone through, whose models are known.
func TestAllOfKnown(t *testing.T) {
	// Each variable says the next: so many truths at the end.
	f := form(60)
	for v := 1; v < 60; v++ {
		f.Clauses = append(f.Clauses, c(-v, v+1))
	}
	for _, config := range configs() {
		for _, vars := range []int{0, 1, 30, 60} {
			if list, _ := listed(t, f, vars, 1000, config); len(list) != vars+1 {
				t.Errorf("%d models on %d variables", len(list), vars)
			}
		}
	}
	// As many things as holes: each order of three of them.
	p := pigeons(3)
	p.Clauses = slices.DeleteFunc(p.Clauses, func(d []int) bool { return slices.ContainsFunc(d, func(l int) bool { return l > 9 || l < -9 }) })
	if list, _ := listed(t, p, 9, 1000, solve.Usual()); len(list) != 6 {
		t.Errorf("%v", list)
	}
	if list, _ := listed(t, p, 12, 1000, solve.Usual()); len(list) != 48 {
		t.Errorf("%d models", len(list))
	}
}
