package under_test

import (
	"math"
	"slices"
	"testing"

	"depot/api"
	"depot/solve"
	"depot/under"
)

// refuses: Solve and Least answer nothing and ErrShape.
func refuses(t *testing.T, f api.Formula, assume []int, config api.Config) {
	t.Helper()
	if o, failed, e := under.Solve(f, assume, config); !same(o, api.Outcome{}) || len(failed) != 0 || e != api.ErrShape {
		t.Errorf("Solve(%v, %v, %v) = %v, %v, %d", f, assume, config, o, failed, e)
	}
	if o, failed, e := under.Least(f, assume, config); !same(o, api.Outcome{}) || len(failed) != 0 || e != api.ErrShape {
		t.Errorf("Least(%v, %v, %v) = %v, %v, %d", f, assume, config, o, failed, e)
	}
}

// P18.1, P18.3: a formula or a config that isn't well shaped, with and without literals, whatever the Budget.
func TestRefusesFormulasAndConfigs(t *testing.T) {
	for _, f := range badFormulas() {
		for _, assume := range [][]int{nil, c(1), c(2, -2), c(0), c(api.MaxVar)} {
			refuses(t, f, assume, solve.Usual())
			refuses(t, f, assume, badConfigs()[0])
		}
	}
	for _, config := range badConfigs() {
		for _, f := range []api.Formula{form(0), form(0, c()), form(3), none(), form(1, c(1))} {
			refuses(t, f, nil, config)
			for _, config.Budget = range []int{-1, 0, 1 << 40} {
				refuses(t, f, c(1), config)
				refuses(t, f, c(1, -1), config)
			}
		}
	}
}

// P18.1, P18.3: literals that are none, and variables above Vars, at each place among others that are fine.
func TestRefusesLiterals(t *testing.T) {
	for _, f := range []api.Formula{form(0), form(0, c()), form(2), none(), form(2, c(1), c(-2)), form(2, c(), c(1))} {
		for _, bad := range []int{0, 3, -3, api.MaxVar, -api.MaxVar, api.MaxVar + 1, -api.MaxVar - 1, math.MaxInt, math.MinInt, -math.MaxInt} {
			for _, budget := range []int{-1, 0, 7} {
				config := solve.Usual()
				config.Budget = budget
				refuses(t, f, c(bad), config)
				refuses(t, f, c(bad, 1, -1), config)
				refuses(t, f, c(1, -1, bad), config)
				refuses(t, f, c(1, bad, 2), config)
				refuses(t, f, c(bad, bad), config)
			}
		}
	}
	refuses(t, form(0), c(1), solve.Usual())
	refuses(t, form(1, c(1)), c(2), solve.Usual())
	refuses(t, form(api.MaxVar), c(api.MaxVar+1), solve.Usual())
	refuses(t, form(api.MaxVar), c(api.MaxVar, 0), solve.Usual())
}

// The chapter's examples of Solve.
func TestExamples(t *testing.T) {
	u := solve.Usual()
	if o, _ := ends(t, form(3, c(1, 2), c(-1, 3)), c(1), u, api.Sat); !o.Model[0] || !o.Model[2] {
		t.Errorf("the model is %v", o.Model)
	}
	if _, failed := ends(t, form(2, c(1, 2)), c(-1, -2), u, api.Unsat); !slices.Equal(failed, c(-1, -2)) {
		t.Errorf("failed: %v", failed)
	}
	if _, failed := ends(t, form(5, c(1), c(-1, 2)), c(-2, 5), u, api.Unsat); len(failed) == 0 || failed[0] != -2 {
		t.Errorf("failed: %v", failed)
	}
	o, failed := ends(t, form(2, c(1, 2)), c(2, -2), u, api.Unsat)
	if !slices.Equal(failed, c(2, -2)) || len(o.Proof) != 1 {
		t.Errorf("failed: %v by %v", failed, o.Proof)
	}
	if _, failed := ends(t, form(1, c(1), c(-1)), c(1), u, api.Unsat); len(failed) > 0 && !slices.Equal(failed, c(1)) {
		t.Errorf("failed: %v", failed)
	}
	refuses(t, form(1, c(1)), c(2), u)
}

// P18.1: the edges, by all configs: no literal; one twice; one beside its opposite; ones that the formula makes true, and false; formulas that no model satisfies; no clause; variables that stand nowhere; literals twice in a clause.
func TestEdges(t *testing.T) {
	for _, x := range []struct {
		f      api.Formula
		assume []int
		end    int
	}{
		{form(0), nil, api.Sat}, {form(0, c()), nil, api.Unsat}, {form(3), nil, api.Sat}, {none(), nil, api.Unsat}, {pigeons(3), nil, api.Unsat},
		{form(1), c(1), api.Sat}, {form(1), c(-1), api.Sat}, {form(1), c(1, 1, 1), api.Sat}, {form(1), c(1, -1), api.Unsat}, {form(1), c(-1, 1, -1), api.Unsat},
		{form(3), c(3, -1), api.Sat}, {form(3), c(3, 1, -3, -1), api.Unsat}, {form(9, c(9, -9)), c(-9, 9), api.Unsat}, {form(9, c(9, -9)), c(-9), api.Sat},
		{form(1, c(1)), c(1), api.Sat}, {form(1, c(1)), c(-1), api.Unsat}, {form(1, c(-1)), c(-1), api.Sat}, {form(1, c(-1)), c(1), api.Unsat},
		{form(1, c(1)), c(1, -1), api.Unsat}, {form(1, c(1), c(-1)), c(1), api.Unsat}, {form(1, c(1), c(-1)), c(-1), api.Unsat}, {form(1, c()), c(1), api.Unsat},
		{form(2, c(1), c(-1)), c(2), api.Unsat}, {form(2, c()), c(2, -1), api.Unsat}, {form(3, none().Clauses...), c(3), api.Unsat}, {none(), c(1, 2), api.Unsat},
		{form(3, c(1), c(-1, 2), c(-2, 3)), c(3, 2, 1), api.Sat}, {form(3, c(1), c(-1, 2), c(-2, 3)), c(3, 2, -1), api.Unsat}, {form(3, c(1), c(-1, 2), c(-2, 3)), c(-3), api.Unsat},
		{form(3, c(-1, 2), c(-2, 3)), c(1, 2, 3), api.Sat}, {form(3, c(-1, 2), c(-2, 3)), c(1, -3), api.Unsat}, {form(3, c(-1, 2), c(-2, 3)), c(-3, 1), api.Unsat}, {form(3, c(-1, 2), c(-2, 3)), c(2, 1, 2, -3), api.Unsat},
		{form(2, c(2, 2, 2), c(-1, -1, 1)), c(-1, 2), api.Sat}, {form(2, c(2, 2, 2), c(-1, -1)), c(1), api.Unsat}, {form(3, c(1, 2, 3)), c(-1, -2, -3), api.Unsat}, {form(3, c(1, 2, 3)), c(-1, -2), api.Sat},
		{form(7, pigeons(2).Clauses...), c(7), api.Unsat}, {form(20, pigeons(3).Clauses...), c(20, -13, 14), api.Unsat},
	} {
		for _, config := range configs() {
			ends(t, x.f, x.assume, config, x.end)
		}
	}
}

// P18.1: all formulas of two variables with all lists of up to two literals, and with drawn longer ones.
func TestPairs(t *testing.T) {
	lists := rows(2)
	for seed := range uint64(8) {
		lists = append(lists, drawn(seed).literals(2, 5))
	}
	some := []api.Config{configs()[0], configs()[1], configs()[10], configs()[20]}
	for _, f := range pairs() {
		for _, assume := range lists {
			want := endOf(f, assume)
			for _, config := range some {
				ends(t, f, assume, config, want)
			}
		}
	}
}

// P18.1: drawn formulas, literals and configs; there are both ends, behind conflicts and without, and all, some and none of the literals fail.
func TestDrawn(t *testing.T) {
	count := map[string]int{}
	for seed := range uint64(6000) {
		draw := drawn(seed)
		vars := 1 + draw.Intn(13)
		f := draw.loose(vars)
		switch seed % 3 {
		case 1:
			f = draw.formula(vars, draw.Intn(5*vars))
		case 2:
			f = draw.hard(vars)
		}
		assume := draw.literals(vars, 7)
		o, failed := ends(t, f, assume, draw.config(), endOf(f, assume))
		switch {
		case o.End == api.Sat && o.Conflicts > 0:
			count["a model behind conflicts"]++
		case o.End == api.Sat:
			count["a model"]++
		case len(failed) == 0:
			count["none"]++
		case len(failed) == len(once(assume)):
			count["all"]++
		default:
			count["some"]++
		}
		if o.End == api.Unsat && o.Conflicts > 0 {
			count["a proof behind conflicts"]++
		}
	}
	for _, kind := range []string{"a model behind conflicts", "a model", "none", "all", "some", "a proof behind conflicts"} {
		if count[kind] < 150 {
			t.Errorf("only %d: %s", count[kind], kind)
		}
	}
}

// P18.1: drawn formulas of more variables under few literals: there are many proofs in which clauses are taken out.
func TestDrawnWithDrops(t *testing.T) {
	count := map[int]int{}
	drops := 0
	for seed := range uint64(400) {
		draw := drawn(seed + 1000)
		f := draw.hard(20 + draw.Intn(40))
		config := draw.config()
		config.Base, config.First = 1+draw.Intn(3), 1+draw.Intn(3)
		o, _ := answered(t, f, c(draw.literal(f.Vars), draw.literal(f.Vars)), config)
		count[o.End]++
		if slices.ContainsFunc(o.Proof, func(s api.Step) bool { return s.Drop }) {
			drops++
		}
	}
	if count[api.Sat] < 20 || count[api.Unsat] < 100 || drops < 50 {
		t.Errorf("only %v, %d proofs with drops", count, drops)
	}
}

// P18.1: searches with many conflicts, restarts and clearings under literals that matter all, in any order, beside others that don't.
func TestLongSearches(t *testing.T) {
	drops := 0
	for k, config := range configs() {
		f, keys := ifAll(pigeons(4), 3)
		f.Vars += 4
		assume := append(c(f.Vars, -f.Vars+1), keys...)
		if k%2 == 1 {
			slices.Reverse(assume)
		}
		o, failed := ends(t, f, assume, config, api.Unsat)
		for _, l := range keys {
			if !slices.Contains(failed, l) {
				t.Fatalf("Solve by %v: failed %v", config, failed)
			}
		}
		for _, s := range o.Proof {
			if s.Drop {
				drops++
			}
		}
		ends(t, f, assume[1:len(assume)-1], config, api.Sat)
		draw := drawn(uint64(k))
		hard := draw.hard(50)
		answered(t, hard, draw.literals(50, 5), config)
		answered(t, hard, draw.literals(50, 30), config)
	}
	if drops == 0 {
		t.Error("nothing is ever cleared")
	}
}

// P18.1: all literals of a model, and all but for one that is the other way round.
func TestWholeModels(t *testing.T) {
	for seed := range uint64(300) {
		draw := drawn(seed + 4000)
		f := draw.hard(4 + draw.Intn(8))
		o, _ := solve.Solve(f, solve.Usual())
		if o.End != api.Sat {
			continue
		}
		var assume []int
		for v := f.Vars; v > 0; v-- {
			assume = append(assume, v)
			if !o.Model[v-1] {
				assume[len(assume)-1] = -v
			}
		}
		config := draw.config()
		if p, _ := ends(t, f, assume, config, api.Sat); !slices.Equal(p.Model, o.Model) {
			t.Fatalf("Solve(%v, %v): the model %v", f, assume, p.Model)
		}
		k := draw.Intn(f.Vars)
		assume[k] = -assume[k]
		ends(t, f, assume, config, endOf(f, assume))
	}
}
