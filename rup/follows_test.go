package rup_test

import (
	"slices"
	"testing"

	"depot/api"
	"depot/cnf"
	"depot/rup"
)

// each shows formulas and clauses: all short ones, and drawn ones that are longer. None has variables above 16.
func each(show func(f api.Formula, clause []int)) {
	for _, f := range small(2) {
		for _, clause := range someClauses() {
			if !slices.ContainsFunc(clause, func(l int) bool { return max(l, -l) > 16 }) {
				show(f, clause)
			}
		}
	}
	for seed := range uint64(1000) {
		show(drawn(seed + 50000).longer())
	}
}

// with: f with c, over as many variables as are needed.
func with(f api.Formula, clause []int) api.Formula {
	g, _ := cnf.Join(f, over(clause))
	return g
}

// hasModel: does some model satisfy f?
func hasModel(f api.Formula) bool {
	for range cnf.Models(f) {
		return true
	}
	return false
}

// P8.5: if c follows from f, each model of f, over enough variables, makes a literal of c true.
func TestModelsMakeTrueWhatFollows(t *testing.T) {
	some := 0
	each(func(f api.Formula, clause []int) {
		if yes, _ := rup.Follows(f, clause); !yes {
			return
		}
		enough := form(with(f, clause).Vars, f.Clauses...)
		if holds, e := cnf.Entails(enough, clause); e != api.OK || !holds {
			t.Errorf("%s follows, but not of each model: error %d", shown(f, clause), e)
		}
		if hasModel(enough) {
			some++
		}
	})
	if some < 200 {
		t.Errorf("only %d with a model", some)
	}
}

// P8.5: if Kind is Rup or Rat, some model satisfies f just if some model satisfies f with c.
func TestWhatMayBeAddedLeavesAModel(t *testing.T) {
	some, none := 0, 0
	each(func(f api.Formula, clause []int) {
		k, _ := rup.Kind(f, clause)
		if k == rup.None {
			return
		}
		before, after := hasModel(f), hasModel(with(f, clause))
		if before != after {
			t.Errorf("%s of kind %d: a model before %v, after %v", shown(f, clause), k, before, after)
		}
		if k == rup.Rat && before {
			some++
		}
		if !before {
			none++
		}
	})
	if some < 200 || none < 50 {
		t.Errorf("%d of kind Rat with a model, %d without", some, none)
	}
}

// P8.5: what is blocked is safe; and so is what isn't empty and follows.
func TestBlockedIsSafe(t *testing.T) {
	some := 0
	each(func(f api.Formula, clause []int) {
		yes, _ := rup.Blocked(f, clause)
		also, _ := rup.Follows(f, clause)
		if yes || also && len(clause) > 0 {
			safe(t, f, clause, true)
			some++
		}
	})
	if some < 500 {
		t.Errorf("only %d", some)
	}
}

// P8.5: each clause of f follows from it, and so do those that hold all its literals.
func TestOwnClausesFollow(t *testing.T) {
	draw := drawn(4)
	each(func(f api.Formula, _ []int) {
		for _, d := range f.Clauses {
			follows(t, f, d, true)
			kind(t, f, d, rup.Rup)
			follows(t, f, shuffled(draw, append(slices.Clone(d), draw.list(f.Vars+2, 2)...), true), true)
		}
	})
}

// P8.5: a clause in which a literal stands beside its opposite follows from any formula.
func TestTautologiesFollow(t *testing.T) {
	draw := drawn(5)
	each(func(f api.Formula, clause []int) {
		for _, l := range c(1, -2, f.Vars+1, api.MaxVar) {
			follows(t, f, shuffled(draw, append(slices.Clone(clause), l, -l), true), true)
		}
	})
}

// P8.5: what holds all literals of a clause that follows does so too, and what follows from fewer clauses.
func TestMoreFollows(t *testing.T) {
	draw, some := drawn(6), 0
	each(func(f api.Formula, clause []int) {
		if yes, _ := rup.Follows(f, clause); !yes {
			return
		}
		some++
		longer := shuffled(draw, append(slices.Clone(clause), draw.list(f.Vars+3, 1+draw.Intn(3))...), false)
		more := form(f.Vars, shuffled(draw, append(slices.Clone(f.Clauses), draw.list(f.Vars, 1+draw.Intn(3)), draw.list(f.Vars, 2)), false)...)
		follows(t, f, longer, true)
		follows(t, more, clause, true)
		follows(t, more, longer, true)
	})
	if some < 500 {
		t.Errorf("only %d", some)
	}
}

// told: what the calls answer of a formula and a clause, as numbers.
func told(f api.Formula, clause []int) []int {
	number := func(yes bool, e api.Errno) int {
		if yes {
			return 100 + int(e)
		}
		return int(e)
	}
	k, e := rup.Kind(f, clause)
	return []int{number(rup.Follows(f, clause)), number(rup.Safe(f, clause)), number(rup.Blocked(f, clause)), k, int(e)}
}

// shuffled: the list in another order, some of it several times.
func shuffled[E any](draw *drawer, list []E, twice bool) []E {
	out := slices.Clone(list)
	if twice && len(list) > 0 {
		for range 1 + draw.Intn(3) {
			out = append(out, list[draw.Intn(len(list))])
		}
	}
	for k := len(out) - 1; k > 0; k-- {
		j := draw.Intn(k + 1)
		out[k], out[j] = out[j], out[k]
	}
	return out
}

// P8.5: only the first literal's place says something: the order of the others, what stands twice, and the clauses' order change no answer.
func TestOrderSaysNothing(t *testing.T) {
	draw := drawn(7)
	each(func(f api.Formula, clause []int) {
		want := told(f, clause)
		for _, twice := range []bool{false, true} {
			g := form(f.Vars, shuffled(draw, f.Clauses, twice)...)
			for k, d := range g.Clauses {
				g.Clauses[k] = shuffled(draw, d, twice)
			}
			var again []int
			if len(clause) > 0 {
				again = append(c(clause[0]), shuffled(draw, clause[1:], false)...)
			}
			if twice && len(clause) > 0 {
				again = append(c(clause[0]), shuffled(draw, clause, true)...)
			}
			if got := told(g, again); !slices.Equal(got, want) {
				t.Errorf("%s: %v; in another order %s: %v", shown(f, clause), want, shown(g, again), got)
			}
		}
	})
}

// P8.5: the first literal's place does say something, in Safe, Kind and Blocked, but not in Follows.
func TestFirstLiteral(t *testing.T) {
	f := over(c(-1, 3), c(-2, 1))
	safe(t, f, c(1, 2), false)
	safe(t, f, c(2, -1), true)
	safe(t, f, c(-1, 2), true)
	safe(t, f, c(2, 4), false)
	safe(t, f, c(4, 2), true)
	kind(t, f, c(2, 4), rup.None)
	kind(t, f, c(4, 2), rup.Rat)
	blocked(t, f, c(4, 2), true)
	blocked(t, f, c(2, 4), false)
	each(func(f api.Formula, clause []int) {
		yes, _ := rup.Follows(f, clause)
		back := slices.Clone(clause)
		slices.Reverse(back)
		follows(t, f, back, yes)
	})
}
