package solve_test

import (
	"runtime"
	"slices"
	"sync"
	"testing"
	"testing/synctest"

	"depot/api"
	"depot/solve"
)

// behind: the list at the head of a longer memory, so that what is written behind its end can be seen.
func behind[E any](list []E, further ...E) []E {
	return append(slices.Clone(list), further...)[:len(list)]
}

// whole: the list with all the room behind its end.
func whole[E any](list []E) []E {
	return list[:cap(list)]
}

// roomy: the formula in memory of its own, with something behind each end.
func roomy(f api.Formula) api.Formula {
	out := form(f.Vars)
	for _, d := range f.Clauses {
		out.Clauses = append(out.Clauses, behind(d, 77, -78, 79, -80))
	}
	out.Clauses = behind(out.Clauses, c(1), c(-1, 2), nil)
	return out
}

// shown: all that can be seen of a formula, the places behind its ends too, copied.
func shown(f api.Formula) [][]int {
	var out [][]int
	for _, d := range whole(f.Clauses) {
		out = append(out, slices.Clone(whole(d)))
	}
	return out
}

// spoil writes all over a list and the room behind its end, and lets it grow.
func spoil[E any](list []E, with E) {
	for k := range whole(list) {
		whole(list)[k] = with
	}
	for range 20 {
		list = append(list, with)
	}
}

// spoilFormula does so with all lists of a formula.
func spoilFormula(f api.Formula) {
	for _, d := range f.Clauses {
		spoil(d, 1)
	}
	spoil(f.Clauses, c(-1))
}

// spoilOutcome does so with all lists of an outcome.
func spoilOutcome(o api.Outcome) {
	for _, s := range o.Proof {
		spoil(s.Lits, 99)
	}
	spoil(o.Proof, api.Step{Drop: true, Lits: c(99)})
	spoil(o.Model, true)
	spoil(o.Model, false)
}

// copied: the outcome in memory of its own.
func copied(o api.Outcome) api.Outcome {
	o.Model, o.Proof = slices.Clone(o.Model), slices.Clone(o.Proof)
	for k := range o.Proof {
		o.Proof[k].Lits = slices.Clone(o.Proof[k].Lits)
	}
	return o
}

// copiedAll: the models in memory of their own.
func copiedAll(list [][]bool) [][]bool {
	var out [][]bool
	for _, m := range list {
		out = append(out, slices.Clone(m))
	}
	return out
}

func sameModels(a, b [][]bool) bool { return slices.EqualFunc(a, b, slices.Equal[[]bool]) }

// sample: a formula, a config and how many variables All is to look at.
func sample(seed uint64) (api.Formula, api.Config, int) {
	draw := drawn(seed)
	f := draw.hard(4 + draw.Intn(20))
	if seed%2 == 0 {
		f = draw.loose(3 + draw.Intn(6))
	}
	return f, draw.config(), draw.Intn(f.Vars + 1)
}

// Memory: what comes in is read, no more, nor are the places behind it written.
func TestFormulaStays(t *testing.T) {
	for seed := range uint64(300) {
		f, config, vars := sample(seed + 100)
		f = roomy(f)
		was := shown(f)
		for _, config.Budget = range []int{-1, 0, 4} {
			solve.Solve(f, config)
			solve.All(f, vars, 40, config)
		}
		solve.Solve(f, api.Config{})
		solve.All(f, -1, 40, config)
		if !slices.EqualFunc(shown(f), was, slices.Equal[[]int]) {
			t.Fatalf("the formula is written into: %v, was %v", shown(f), was)
		}
	}
}

// Memory: what goes out shares nothing with what came in, whichever of them is written into.
func TestNothingIsShared(t *testing.T) {
	for seed := range uint64(300) {
		f, config, vars := sample(seed + 700)
		mine := roomy(f)
		was := shown(mine)
		o, _ := solve.Solve(mine, config)
		list, _ := solve.All(mine, vars, 40, config)
		outcome, models := copied(o), copiedAll(list)
		spoilFormula(mine)
		if !same(o, outcome) || !sameModels(list, models) {
			t.Fatalf("Solve(%v) or All changes with the formula", f)
		}
		mine = roomy(f)
		o, _ = solve.Solve(mine, config)
		list, _ = solve.All(mine, vars, 40, config)
		spoilOutcome(o)
		for _, m := range list {
			spoil(m, true)
		}
		spoil(list, nil)
		if !slices.EqualFunc(shown(mine), was, slices.Equal[[]int]) {
			t.Fatalf("the formula %v changes with an answer", f)
		}
	}
}

// Memory: nobody remembers what came in or went out: written over, it changes no later answer.
func TestNothingIsRemembered(t *testing.T) {
	for seed := range uint64(200) {
		f, config, vars := sample(seed + 1300)
		want, _ := solve.Solve(roomy(f), config)
		all, _ := solve.All(roomy(f), vars, 40, config)
		want, all = copied(want), copiedAll(all)
		for range 3 {
			mine := roomy(f)
			o, _ := solve.Solve(mine, config)
			list, _ := solve.All(mine, vars, 40, config)
			if !same(o, want) || !sameModels(list, all) {
				t.Fatalf("Solve(%v, %v) or All answers otherwise", f, config)
			}
			spoilOutcome(o)
			for _, m := range list {
				spoil(m, true)
			}
			spoil(list, nil)
			spoilFormula(mine)
		}
	}
}

// Memory: no two lists of an answer share anything, nor do those of two answers.
func TestListsShareNothing(t *testing.T) {
	for seed := range uint64(200) {
		f, config, vars := sample(seed + 1900)
		o, _ := solve.Solve(f, config)
		other, _ := solve.Solve(f, config)
		was := copied(o)
		for k := range o.Proof {
			spoil(o.Proof[k].Lits, 99)
			o.Proof[k].Lits = slices.Clone(was.Proof[k].Lits)
			if !same(o, was) {
				t.Fatalf("step %d of a proof shares with others", k)
			}
		}
		spoilOutcome(o)
		if !same(other, was) {
			t.Fatal("two outcomes share")
		}
		list, _ := solve.All(f, vars, 40, config)
		others, _ := solve.All(f, vars, 40, config)
		models := copiedAll(list)
		for k := range list {
			spoil(list[k], !models[k][0])
			list[k] = slices.Clone(models[k])
			if !sameModels(list, models) {
				t.Fatalf("model %d shares with others", k)
			}
		}
		for k := range list {
			spoil(list[k], !models[k][0])
		}
		spoil(list, nil)
		if !sameModels(others, models) {
			t.Fatal("two lists share")
		}
	}
}

// Memory: a list without elements may be nil or not.
func TestNilAndEmpty(t *testing.T) {
	u := solve.Usual()
	for _, vars := range []int{0, 3} {
		one, e := solve.Solve(api.Formula{Vars: vars}, u)
		two, g := solve.Solve(api.Formula{Vars: vars, Clauses: [][]int{}}, u)
		if e != api.OK || g != api.OK || !same(one, two) {
			t.Errorf("Solve = %v, %v", one, two)
		}
		one, e = solve.Solve(form(vars, nil), u)
		two, g = solve.Solve(form(vars, []int{}), u)
		if e != api.OK || g != api.OK || !same(one, two) || one.End != api.Unsat {
			t.Errorf("Solve = %v, %v", one, two)
		}
		list, _ := solve.All(api.Formula{Vars: vars}, vars, 99, u)
		again, _ := solve.All(api.Formula{Vars: vars, Clauses: [][]int{}}, vars, 99, u)
		if len(list) != 1<<vars || !sameModels(list, again) {
			t.Errorf("All = %v, %v", list, again)
		}
	}
}

// Sameness: the same call answers the same, whatever was called between, and in other memory.
func TestSameAgain(t *testing.T) {
	var outcomes []api.Outcome
	var lists [][][]bool
	for round := range 3 {
		for k := range uint64(150) {
			f, config, vars := sample(k + 2500)
			if round == 1 {
				f = roomy(f)
			}
			o, _ := solve.Solve(f, config)
			list, _ := solve.All(f, vars, 40, config)
			if round == 0 {
				outcomes, lists = append(outcomes, o), append(lists, list)
			} else if !same(o, outcomes[k]) || !sameModels(list, lists[k]) {
				t.Fatalf("Solve(%v, %v) or All answers otherwise", f, config)
			}
		}
	}
}

// Sameness: so it does beside others, on one processor or many.
func TestSameBesideOneAnother(t *testing.T) {
	var outcomes []api.Outcome
	var lists [][][]bool
	for k := range uint64(24) {
		f, config, vars := sample(k + 3500)
		o, _ := solve.Solve(f, config)
		list, _ := solve.All(f, vars, 40, config)
		outcomes, lists = append(outcomes, o), append(lists, list)
	}
	for _, processors := range []int{1, runtime.NumCPU()} {
		was := runtime.GOMAXPROCS(processors)
		var group sync.WaitGroup
		for k := range uint64(24) {
			group.Go(func() {
				f, config, vars := sample(k + 3500)
				for range 3 {
					o, _ := solve.Solve(f, config)
					list, _ := solve.All(f, vars, 40, config)
					if !same(o, outcomes[k]) || !sameModels(list, lists[k]) {
						t.Errorf("Solve(%v, %v) or All answers otherwise", f, config)
					}
				}
			})
		}
		group.Wait()
		runtime.GOMAXPROCS(was)
	}
}

// Sameness: no call leaves a goroutine behind: a bubble waits for all that were begun in it, and panics, if one is left that nobody can wake.
func TestNobodyIsLeft(t *testing.T) {
	synctest.Test(t, func(t *testing.T) {
		for k := range uint64(24) {
			f, config, vars := sample(k + 3500)
			solve.Solve(f, config)
			solve.All(f, vars, 40, config)
		}
	})
}

// Sameness: one formula at a time in several hands.
func TestOneFormulaInManyHands(t *testing.T) {
	f := roomy(pigeons(4))
	want, _ := solve.Solve(f, solve.Usual())
	var group sync.WaitGroup
	for range 8 {
		group.Go(func() {
			if o, e := solve.Solve(f, solve.Usual()); e != api.OK || !same(o, want) {
				t.Error("Solve answers otherwise")
			}
			if list, e := solve.All(f, f.Vars, 3, solve.Usual()); e != api.OK || len(list) != 0 {
				t.Error("All answers otherwise")
			}
		})
	}
	group.Wait()
}
