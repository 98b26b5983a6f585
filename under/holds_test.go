package under_test

import (
	"math"
	"slices"
	"testing"

	"depot/api"
	"depot/lits"
	"depot/rup"
	"depot/solve"
	"depot/under"
	"depot/unit"
)

// plain is a second forward, by the words of chapters 8 and 11: clauses in a list, asked anew at each step.
type plain struct {
	clauses [][]int
	done    bool
}

func (p *plain) formula() api.Formula { return form(api.MaxVar, p.clauses...) }

// add: is the clause Rup?
func (p *plain) add(clause []int) bool {
	follows, e := rup.Follows(p.formula(), clause)
	if p.done || e != api.OK || !follows {
		return false
	}
	p.clauses = append(slices.Clone(p.clauses), clause)
	p.done = len(clause) == 0
	return true
}

// drop: is it Gone or Kept?
func (p *plain) drop(clause []int) bool {
	at := slices.IndexFunc(p.clauses, func(d []int) bool { return lits.Same(d, clause) })
	if p.done || at < 0 {
		return false
	}
	known, clash, _ := unit.Close(p.formula(), nil)
	kept := clash || slices.ContainsFunc(clause, func(l int) bool {
		return lits.Has(known, l) && !slices.ContainsFunc(lits.Without(clause, l), func(x int) bool { return !lits.Has(known, -x) })
	})
	if !kept {
		p.clauses = slices.Delete(slices.Clone(p.clauses), at, at+1)
	}
	return true
}

// plainHolds: Holds by the chapter's words.
func plainHolds(f api.Formula, failed []int, proof []api.Step) bool {
	if len(proof) == 0 || !lits.Sound(failed) || f.Vars < 0 || f.Vars > api.MaxVar {
		return false
	}
	for _, d := range f.Clauses {
		if !lits.Sound(d) || slices.ContainsFunc(d, func(l int) bool { return lits.Var(l) > f.Vars }) {
			return false
		}
	}
	p := &plain{clauses: f.Clauses}
	for _, s := range proof {
		if s.Drop && !p.drop(s.Lits) || !s.Drop && !p.add(s.Lits) {
			return false
		}
	}
	last := proof[len(proof)-1]
	var opposites []int
	for _, l := range last.Lits {
		opposites = append(opposites, -l)
	}
	return !last.Drop && lits.Same(opposites, failed)
}

// holds: Holds answers that, and so does the plain one.
func holds(t *testing.T, f api.Formula, failed []int, want bool, proof ...api.Step) {
	t.Helper()
	if got := under.Holds(f, failed, proof); got != want {
		t.Errorf("Holds(%v, %v, %v) = %v", f, failed, proof, got)
	}
	if got := plainHolds(f, failed, proof); got != want {
		t.Errorf("a plain Holds(%v, %v, %v) = %v", f, failed, proof, got)
	}
}

// The chapter's examples of Holds.
func TestHoldsExamples(t *testing.T) {
	f, g := form(2, c(-1, -2)), form(1, c(1), c(-1))
	holds(t, f, c(1, 2), true, add(-2, -1))
	holds(t, f, c(1), false, add(-1))
	holds(t, f, c(1, 2), false)
	holds(t, g, nil, true, add())
	holds(t, g, nil, false, add(), add())
}

// P18.2: proofs that bear a ban out: the ban's literals in any order and twice, ones of failed twice, opposites, variables above Vars, steps ahead, drops that are Gone and ones that are Kept.
func TestHoldsTrue(t *testing.T) {
	f := form(3, c(-1, -2), c(2, 3))
	holds(t, f, c(1, 2), true, add(-1, -2))
	holds(t, f, c(2, 1, 2), true, add(-1, -2, -1))
	holds(t, f, c(1, 2, 3), true, add(-3, -2, -1))
	holds(t, f, c(1, -3), true, add(-1, 3))
	holds(t, f, c(1, -1), true, add(1, -1))
	holds(t, f, c(9, -9), true, add(9, -9))
	holds(t, f, c(1, 2, api.MaxVar), true, add(-1, -2, -api.MaxVar))
	holds(t, f, c(1, 2), true, add(-1, 3), add(-1, -2))
	holds(t, f, c(1, -3), true, add(-1, 3), drop(-1, -2), drop(3, 2), add(3, -1))
	holds(t, form(3, c(1), c(1, 2), c(-1, 3)), c(-3), true, drop(2, 1), drop(1), drop(3, -1), add(3))
	holds(t, none(), nil, true, add(2), drop(2), drop(1, 2), add())
	holds(t, form(0, c()), nil, true, add())
	holds(t, form(0, c()), nil, true, drop(), add(5), drop(5), add())
	holds(t, form(0, c()), c(-7), true, add(7))
}

// P18.2: ones that don't: no step, a drop or another clause last, an addition that isn't Rup (be it Rat), a drop of what isn't there, something behind the empty clause.
func TestHoldsFalse(t *testing.T) {
	f := form(3, c(-1, -2), c(2, 3))
	holds(t, f, nil, false)
	holds(t, form(1, c(1), c(-1)), nil, false)
	holds(t, f, c(1, 2), false, add(-1, -2), drop(-1, -2))
	holds(t, f, c(1, 2), false, drop(-1, -2))
	holds(t, f, c(1, 2), false, add(-1, -2), add(-1, -2, 3))
	holds(t, f, c(1), false, add(-1, -2))
	holds(t, f, c(1, 2, 3), false, add(-1, -2))
	holds(t, f, c(-1, -2), false, add(-1, -2))
	holds(t, f, c(1, 2), false, add(1, 2))
	holds(t, f, nil, false, add())
	holds(t, f, c(1), false, add(-1))
	holds(t, f, c(-4), false, add(4))
	holds(t, f, c(1, 2), false, add(4, 1), add(-1, -2))
	holds(t, f, c(1, 2), false, drop(1, 2), add(-1, -2))
	holds(t, f, c(1, 2), false, drop(), add(-1, -2))
	holds(t, f, c(1, 2), false, drop(-1, -2), add(-1, -2))
	holds(t, f, c(1, 2), false, add(-1, -2), drop(-1, -2), drop(-2, -1), drop(-1, -2), add(-1, -2))
	g := form(2, c(1), c(-1), c(2))
	holds(t, g, nil, false, add(), add())
	holds(t, g, nil, false, add(), drop(1), add())
	holds(t, g, c(2), false, add(), add(-2))
	holds(t, g, c(2), true, add(-2))
	holds(t, g, nil, false, add(), drop(1))
	holds(t, form(0), nil, false, add())
}

// P18.2: formulas, literals and steps that aren't well shaped, beside what would be fine.
func TestHoldsShape(t *testing.T) {
	for _, f := range badFormulas() {
		holds(t, f, c(1, -1), false, add(1, -1))
		holds(t, f, nil, false, add())
		holds(t, f, nil, false)
	}
	f := form(1, c(1), c(-1))
	for _, bad := range []int{0, api.MaxVar + 1, -api.MaxVar - 1, math.MaxInt, math.MinInt, -math.MaxInt} {
		holds(t, f, c(bad), false, add(-bad))
		holds(t, f, c(bad), false, add())
		holds(t, f, c(1, bad), false, add(-1, -bad))
		holds(t, f, c(1, bad), false, add(-1))
		holds(t, f, c(1), false, add(-1, bad))
		holds(t, f, c(1), false, add(2, bad), add(-1))
		holds(t, f, c(1), false, drop(bad), add(-1))
		holds(t, f, c(1), false, drop(1, bad), add(-1))
	}
	holds(t, f, c(api.MaxVar), true, add(-api.MaxVar))
	holds(t, f, c(-api.MaxVar), true, add(api.MaxVar))
}

// P18.2: all rows of up to two steps over small formulas, against the chapter's words.
func TestHoldsOfShortRows(t *testing.T) {
	var steps []api.Step
	for _, row := range append(rows(1), c(1, 2), c(-2, 1), c(-1, -2), c(1, -1), c(3)) {
		steps = append(steps, add(row...), drop(row...))
	}
	proofs := [][]api.Step{nil}
	for _, a := range steps {
		proofs = append(proofs, []api.Step{a})
		for _, b := range steps {
			proofs = append(proofs, []api.Step{a, b})
		}
	}
	yes := 0
	for _, f := range []api.Formula{form(0), form(2), none(), form(2, c(1), c(-1)), form(2, c(1, 2), c(-1)), form(1, c()), form(2, c(-1, -2), c(2, 1), c(1, 2)), form(3, c(1), c(3, 2))} {
		for _, failed := range append(rows(1), c(1, -1), c(1, 2), c(-1, 2), c(-2, -1), c(-3)) {
			for _, proof := range proofs {
				want := plainHolds(f, failed, proof)
				holds(t, f, failed, want, proof...)
				if want {
					yes++
				}
			}
		}
	}
	if yes < 200 {
		t.Errorf("only %d hold", yes)
	}
}

// spoilt: the proof with something about it changed: a step left out, twice, or at another place; a literal gone, new or turned round; an addition made a drop, or the other way round.
func spoilt(draw *drawer, proof []api.Step, vars int) []api.Step {
	out := slices.Clone(proof)
	k := draw.Intn(len(out))
	one := slices.Clone(out[k].Lits)
	switch draw.Intn(7) {
	case 0:
		return slices.Delete(out, k, k+1)
	case 1:
		return slices.Insert(out, draw.Intn(len(out)+1), out[k])
	case 2:
		i := draw.Intn(len(out))
		out[k], out[i] = out[i], out[k]
		return out
	case 3:
		if len(one) > 0 {
			i := draw.Intn(len(one))
			one = slices.Delete(one, i, i+1)
		}
	case 4:
		one = append(one, draw.literal(vars))
	case 5:
		if len(one) > 0 {
			one[draw.Intn(len(one))] *= -1
		}
	case 6:
		out[k].Drop = !out[k].Drop
	}
	out[k].Lits = one
	return out
}

// P18.2: what Solve and Least prove, whole and spoilt, against the chapter's words.
func TestHoldsOfProofs(t *testing.T) {
	yes, no := 0, 0
	for seed := range uint64(250) {
		draw := drawn(seed + 800)
		f := draw.hard(5 + draw.Intn(15))
		o, failed, _ := under.Solve(f, draw.literals(f.Vars, 3), draw.config())
		if seed%3 == 0 {
			o, failed, _ = under.Least(f, draw.literals(f.Vars, 3), draw.config())
		}
		if o.End != api.Unsat {
			continue
		}
		holds(t, f, failed, true, o.Proof...)
		for range 12 {
			proof := spoilt(draw, o.Proof, f.Vars)
			want := plainHolds(f, failed, proof)
			holds(t, f, failed, want, proof...)
			if want {
				yes++
			} else {
				no++
			}
		}
		// Other literals than those that were proved.
		holds(t, f, append(slices.Clone(failed), f.Vars+1), false, o.Proof...)
		if len(failed) > 0 {
			holds(t, f, failed[1:], false, o.Proof...)
		}
	}
	if yes < 100 || no < 500 {
		t.Errorf("only %d hold, %d don't", yes, no)
	}
}

// P18.2: steps of solve.Solve bear the ban of none out.
func TestHoldsOfSolve(t *testing.T) {
	for holes := range 5 {
		f := pigeons(holes)
		o, _ := solve.Solve(f, solve.Usual())
		if !under.Holds(f, nil, o.Proof) || under.Holds(f, nil, append(o.Proof, add())) || under.Holds(f, nil, o.Proof[:len(o.Proof)-1]) {
			t.Errorf("of %d holes", holes)
		}
	}
}
