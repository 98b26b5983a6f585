package under_test

import (
	"slices"
	"testing"

	"depot/api"
	"depot/cnf"
	"depot/solve"
	"depot/under"
)

// without: the list without the one at a place.
func without(list []int, k int) []int { return slices.Delete(slices.Clone(list), k, k+1) }

// least: what Least answers of what is well shaped, held against P18.3.
func least(t *testing.T, f api.Formula, assume []int, config api.Config) (api.Outcome, []int) {
	t.Helper()
	o, failed, e := under.Least(f, assume, config)
	wrong := ""
	switch {
	case e != api.OK || o.Conflicts != 0:
		wrong = "an error, or the number of conflicts"
	case o.End == api.Sat:
		if len(failed) != 0 || len(o.Proof) != 0 || !cnf.Satisfies(f, o.Model) || !makesAll(o.Model, assume) {
			wrong = "the model, or something beside it"
		}
	case o.End == api.Unsat:
		wrong = bears(f, failed, o.Proof)
		if len(o.Model) != 0 || !isSome(failed, assume) {
			wrong = "what failed, or a model beside it"
		}
		for k := range failed {
			if !together(f, without(failed, k)) {
				wrong = "one is too many"
			}
		}
	case o.End == api.Out:
		if config.Budget < 0 || len(o.Model)+len(o.Proof)+len(failed) != 0 {
			wrong = "an end without an answer"
		}
	default:
		wrong = "the end"
	}
	if wrong != "" {
		t.Fatalf("Least(%v, %v, %v) = %v, %v, %d: %s", f, assume, config, o, failed, e, wrong)
	}
	return o, failed
}

// together: does some model satisfy the formula and make the literals true? Where they are few, all models are gone through; else the literals are clauses of a search of their own.
func together(f api.Formula, literals []int) bool {
	if f.Vars <= 12 {
		return possible(f, literals)
	}
	g := form(f.Vars, slices.Clone(f.Clauses)...)
	for _, l := range literals {
		g.Clauses = append(g.Clauses, c(l))
	}
	o, _ := solve.Solve(g, solve.Usual())
	return o.End == api.Sat
}

// The chapter's examples of Least.
func TestLeastExamples(t *testing.T) {
	u := solve.Usual()
	if o, failed := least(t, form(1, c(1), c(-1)), c(1), u); o.End != api.Unsat || len(failed) != 0 || len(o.Proof) != 1 || len(o.Proof[0].Lits) != 0 {
		t.Errorf("Least = %v, %v", o, failed)
	}
	f := form(3, c(-1, -2), c(-2, -3))
	if o, failed := least(t, f, c(1, 2, 3), u); o.End != api.Unsat || !slices.Equal(failed, c(1, 2)) && !slices.Equal(failed, c(2, 3)) {
		t.Errorf("Least = %v, %v", o, failed)
	}
	if o, _ := least(t, f, c(1, 3), u); o.End != api.Sat {
		t.Errorf("Least = %v", o)
	}
}

// P18.3: the edges: no literal; one twice; one beside its opposite, where the formula makes one of them false, and where it makes neither so; all needed; none needed.
func TestLeastEdges(t *testing.T) {
	long := form(6, c(1, 2, 3, 4, 5, 6))
	for _, x := range []struct {
		f      api.Formula
		assume []int
		end    int
		failed [][]int
	}{
		{form(0), nil, api.Sat, nil}, {form(0, c()), nil, api.Unsat, [][]int{nil}}, {none(), nil, api.Unsat, [][]int{nil}}, {none(), c(1, -2), api.Unsat, [][]int{nil}}, {none(), c(1, -1), api.Unsat, [][]int{nil}},
		{form(1), c(1, 1), api.Sat, nil}, {form(1), c(1, -1), api.Unsat, [][]int{c(1, -1)}}, {form(1), c(-1, -1, 1, 1), api.Unsat, [][]int{c(-1, 1)}},
		{form(1, c(1)), c(1, -1), api.Unsat, [][]int{c(-1)}}, {form(1, c(-1)), c(1, -1), api.Unsat, [][]int{c(1)}}, {form(1, c(1)), c(-1, -1), api.Unsat, [][]int{c(-1)}},
		{form(2, c(-2)), c(1, -1, 2), api.Unsat, [][]int{c(2), c(1, -1)}}, {form(2), c(2, 1, -2, -1), api.Unsat, [][]int{c(2, -2), c(1, -1)}},
		{long, c(-6, -5, -4, -3, -2, -1), api.Unsat, [][]int{c(-6, -5, -4, -3, -2, -1)}}, {long, c(-6, -5, -4, -3, -2), api.Sat, nil}, {long, c(-1, -3, 5), api.Sat, nil},
		{form(7, pigeons(2).Clauses...), c(7, 1, 2), api.Unsat, [][]int{nil}}, {form(3, c(1), c(-1, 2)), c(3, -2), api.Unsat, [][]int{c(-2)}},
		{form(4, c(-1, 2), c(-2, 3), c(-3, 4)), c(1, 2, 3, -4), api.Unsat, [][]int{c(1, -4), c(2, -4), c(3, -4)}},
	} {
		for _, config := range configs() {
			o, failed := least(t, x.f, x.assume, config)
			if o.End != x.end {
				t.Fatalf("Least(%v, %v, %v): End %d", x.f, x.assume, config, o.End)
			}
			fits := func(want []int) bool { return slices.Equal(failed, want) }
			if x.end == api.Unsat && !slices.ContainsFunc(x.failed, fits) {
				t.Fatalf("Least(%v, %v, %v): failed %v", x.f, x.assume, config, failed)
			}
		}
	}
}

// P18.3: all formulas of two variables with all lists of up to three literals.
func TestLeastOfPairs(t *testing.T) {
	for k, f := range pairs() {
		for i, assume := range rows(3) {
			if o, _ := least(t, f, assume, configs()[(k+i)%len(configs())]); o.End != endOf(f, assume) {
				t.Fatalf("Least(%v, %v): End %d", f, assume, o.End)
			}
		}
	}
}

// P18.3: drawn formulas, literals and configs: there are both ends, and all, some and none of the literals are needed.
func TestLeastOfDrawn(t *testing.T) {
	count := map[string]int{}
	for seed := range uint64(4000) {
		draw := drawn(seed + 2000)
		vars := 2 + draw.Intn(11)
		f := draw.loose(vars)
		if seed%4 == 0 {
			f = draw.hard(vars)
		}
		assume := draw.literals(vars, 9)
		o, failed := least(t, f, assume, draw.config())
		switch {
		case o.End != endOf(f, assume):
			t.Fatalf("Least(%v, %v): End %d", f, assume, o.End)
		case o.End == api.Sat:
			count["a model"]++
		case len(failed) == 0:
			count["none"]++
		case len(failed) == len(once(assume)):
			count["all"]++
		case len(failed) > 1:
			count["some"]++
		}
	}
	for _, kind := range []string{"a model", "none", "all", "some"} {
		if count[kind] < 100 {
			t.Errorf("only %d: %s", count[kind], kind)
		}
	}
}

// P18.3: longer searches: literals that matter all among others that don't, which stand ahead of them, between them and behind.
func TestLeastOfLongSearches(t *testing.T) {
	for _, config := range configs() {
		f, keys := ifAll(pigeons(3), 4)
		f.Vars += 6
		n := f.Vars
		assume := c(n, keys[2], -n+1, 1, keys[0], keys[3], n-2, n-3, keys[1], keys[1], -2, -n+4)
		o, failed := least(t, f, assume, config)
		if o.End != api.Unsat || !slices.Equal(failed, c(keys[2], keys[0], keys[3], keys[1])) {
			t.Fatalf("Least by %v: End %d, failed %v", config, o.End, failed)
		}
	}
	for seed := range uint64(40) {
		draw := drawn(seed + 6000)
		f := draw.hard(40)
		f.Clauses = f.Clauses[:130]
		least(t, f, draw.literals(40, 20), draw.config())
	}
}

// searches: all searches that Least may make, by how many conflicts each has: of all parts of the literals.
func searches(t *testing.T, f api.Formula, assume []int, config api.Config) (most int) {
	t.Helper()
	each := once(assume)
	for bits := range 1 << len(each) {
		var part []int
		for k, l := range each {
			if bits>>k&1 == 1 {
				part = append(part, l)
			}
		}
		o, _ := answered(t, f, part, config)
		most = max(most, o.Conflicts)
	}
	return most
}

// P18.3: with a Budget the answer is that without one, or Out; Out, where the first of its searches is; never, where no search has more conflicts, nor with the bound.
func TestLeastBudgets(t *testing.T) {
	outs, late := 0, 0
	for seed := range uint64(300) {
		draw := drawn(seed + 3000)
		f := draw.hard(5 + draw.Intn(12))
		assume := draw.literals(f.Vars, 3)
		if seed%2 == 0 {
			f, assume = ifAll(draw.hard(12+draw.Intn(8)), 1+draw.Intn(3))
		}
		config := draw.config()
		want, failed := least(t, f, assume, config)
		first, _ := answered(t, f, assume, config)
		most := searches(t, f, assume, config)
		list := []int{0, 1, 2, 5, first.Conflicts, most, most + 1, most + 100, 1 << 40}
		if first.Conflicts > 0 {
			list = append(list, first.Conflicts-1, most-1)
		}
		if f.Vars < 18 {
			list = append(list, bound(f.Vars))
		}
		for _, b := range list {
			config.Budget = b
			o, some := least(t, f, assume, config)
			switch {
			case o.End == api.Out && b >= most:
				t.Fatalf("Least(%v, %v, %v) is Out, no search has more than %d conflicts", f, assume, config, most)
			case o.End != api.Out && b < first.Conflicts:
				t.Fatalf("Least(%v, %v, %v) = %v, the first search has %d conflicts", f, assume, config, o, first.Conflicts)
			case o.End != api.Out && (!same(o, want) || !slices.Equal(some, failed)):
				t.Fatalf("Least(%v, %v, %v) = %v, %v; without a bound %v, %v", f, assume, config, o, some, want, failed)
			case o.End == api.Out && b >= first.Conflicts:
				late++
			case o.End == api.Out:
				outs++
			}
		}
	}
	if outs < 100 || late < 10 {
		t.Errorf("only %d are Out at once, %d later", outs, late)
	}
}
