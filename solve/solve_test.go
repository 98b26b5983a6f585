package solve_test

import (
	"slices"
	"testing"

	"depot/api"
	"depot/solve"
)

// refuses: Solve answers nothing and ErrShape.
func refuses(t *testing.T, f api.Formula, config api.Config) {
	t.Helper()
	if o, e := solve.Solve(f, config); !same(o, api.Outcome{}) || e != api.ErrShape {
		t.Errorf("Solve(%v, %v) = %v, %d", f, config, o, e)
	}
}

// P17.1: a formula or a config that isn't well shaped, or neither.
func TestSolveRefuses(t *testing.T) {
	for _, f := range badFormulas() {
		refuses(t, f, solve.Usual())
		for _, config := range badConfigs() {
			refuses(t, f, config)
		}
	}
	for _, config := range badConfigs() {
		for _, f := range []api.Formula{form(0), form(0, c()), form(3), none(), form(1, c(1))} {
			refuses(t, f, config)
			for _, b := range []int{-1, 0, 1 << 40} {
				config.Budget = b
				refuses(t, f, config)
			}
		}
	}
}

// P17.3: each number.
func TestUsual(t *testing.T) {
	u := solve.Usual()
	if u.Base != 100 || u.First != 2000 || u.Grow != 300 || u.Decay != 0.95 || u.Phase != api.PhaseKept || u.Budget != -1 {
		t.Errorf("Usual = %v", u)
	}
}

// The chapter's examples.
func TestExamples(t *testing.T) {
	u := solve.Usual()
	if o := ends(t, form(2, c(1, 2), c(-1)), u, api.Sat); !slices.Equal(o.Model, []bool{false, true}) {
		t.Errorf("the model is %v", o.Model)
	}
	if o := ends(t, form(0), u, api.Sat); len(o.Model) != 0 {
		t.Errorf("the model is %v", o.Model)
	}
	if o := ends(t, form(3), u, api.Sat); len(o.Model) != 3 {
		t.Errorf("the model is %v", o.Model)
	}
	ends(t, none(), u, api.Unsat)
	ends(t, form(0, c()), u, api.Unsat)
	u.Budget = 0
	if o := solved(t, none(), u); o.End == api.Sat || o.Conflicts != 0 {
		t.Errorf("Solve = %v", o)
	}
	u = solve.Usual()
	refuses(t, form(1, c(2)), u)
	u.Base = 0
	refuses(t, form(1), u)
}

// P17.1: the edges, by all configs: no variable, no clause, the empty clause, what unit clauses say, literals twice and beside their opposites, variables that stand nowhere.
func TestEdges(t *testing.T) {
	for _, x := range []struct {
		f   api.Formula
		end int
	}{
		{form(0), api.Sat}, {form(0, c()), api.Unsat}, {form(0, c(), c()), api.Unsat}, {form(1), api.Sat}, {form(1, c()), api.Unsat}, {form(40), api.Sat}, {form(40, c()), api.Unsat},
		{form(1, c(1)), api.Sat}, {form(1, c(-1)), api.Sat}, {form(1, c(1), c(-1)), api.Unsat}, {form(1, c(1, -1)), api.Sat}, {form(2, c(2, 2, 2), c(-2, -2)), api.Unsat},
		{form(3, c(1), c(-1, 2), c(-2, 3), c(-3)), api.Unsat}, {form(3, c(1), c(-1, 2), c(-2, 3)), api.Sat}, {form(2, c(1, 2), c()), api.Unsat},
		{form(9, c(9, -9), c(5, 5, -7), c(7)), api.Sat}, {form(9, none().Clauses...), api.Unsat}, {form(api.MaxVar, c(-api.MaxVar), c(1, api.MaxVar)), api.Sat},
		{pigeons(1), api.Unsat}, {pigeons(2), api.Unsat}, {pigeons(3), api.Unsat},
	} {
		for k, config := range configs() {
			if x.f.Vars < 1000 || k%20 == 0 {
				ends(t, x.f, config, x.end)
			}
		}
	}
}

// P17.1, P3: all formulas of two variables, by all configs.
func TestPairs(t *testing.T) {
	for _, f := range pairs() {
		want := endOf(f)
		for _, config := range configs() {
			ends(t, f, config, want)
		}
	}
}

// P17.1, P3: drawn formulas, by drawn configs; there are both ends, clauses are learnt, and some are taken out again.
func TestDrawn(t *testing.T) {
	sat, unsat, drops := 0, 0, 0
	for seed := range uint64(3000) {
		draw := drawn(seed)
		vars := 1 + draw.Intn(14)
		f := draw.formula(vars, draw.Intn(5*vars))
		if seed%2 == 0 {
			f = draw.hard(vars)
		}
		o := ends(t, f, draw.config(), endOf(f))
		if o.End == api.Sat {
			sat++
		} else {
			unsat++
		}
		if slices.ContainsFunc(o.Proof, func(s api.Step) bool { return s.Drop }) {
			drops++
		}
	}
	if sat < 300 || unsat < 300 || drops < 20 {
		t.Errorf("%d models, %d proofs, %d of them with drops", sat, unsat, drops)
	}
}

// P17.1, P3: longer searches, with many restarts and clearings or none.
func TestLongSearches(t *testing.T) {
	for k, config := range configs() {
		o := ends(t, pigeons(4), config, api.Unsat)
		drops := 0
		for _, s := range o.Proof {
			if s.Drop {
				drops++
			}
		}
		if often := config.Base <= 3 && config.First <= 3; often != (drops > 0) {
			t.Errorf("%d drops by %v", drops, config)
		}
		draw := drawn(uint64(k))
		solved(t, draw.hard(30), config)
		solved(t, draw.hard(50), config)
	}
	ends(t, pigeons(6), solve.Usual(), api.Unsat)
	ends(t, pigeons(5), api.Config{Base: 1, First: 1, Grow: 1, Decay: 0.5, Phase: api.PhaseTrue, Budget: -9}, api.Unsat)
}
