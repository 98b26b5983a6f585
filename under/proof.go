package under

import (
	"slices"

	"depot/api"
	"depot/forward"
	"depot/lits"
	"depot/rup"
	"depot/unit"
)

// ban: the clause that says that not all of some literals are true.
func ban(literals []int) []int {
	out := make([]int, 0, len(literals))
	for _, l := range literals {
		out = append(out, -l)
	}
	return out
}

// refuted: an outcome whose proof are these steps and, behind them, the ban of some literals.
func refuted(steps []api.Step, failed []int, conflicts int) api.Outcome {
	return api.Outcome{End: api.Unsat, Proof: append(steps, api.Step{Lits: ban(failed)}), Conflicts: conflicts}
}

// guilty: of literals from which the closing of a formula is a clash, none of them beside its opposite, those that led to it.
func guilty(f api.Formula, literals []int) []int {
	causes, wrong, _ := unit.Why(f, literals)
	led := make([]bool, f.Vars+1)
	mark := func(clause int) {
		for _, l := range f.Clauses[clause] {
			led[lits.Var(l)] = true
		}
	}
	mark(wrong)
	for _, x := range slices.Backward(causes) {
		if led[lits.Var(x.Lit)] {
			mark(x.Clause)
		}
	}
	return slices.DeleteFunc(slices.Clone(literals), func(l int) bool { return !led[lits.Var(l)] })
}

// endsWith: is there a last step, and does it add that clause?
func endsWith(proof []api.Step, clause []int) bool {
	if len(proof) == 0 {
		return false
	}
	last := proof[len(proof)-1]
	return !last.Drop && lits.Same(last.Lits, clause)
}

// allFollow: of a formula that is well shaped, does forward take each step, and does each clause that is added follow?
func allFollow(f api.Formula, proof []api.Step) bool {
	w, _ := forward.New(f)
	for _, s := range proof {
		if !taken(w, s) {
			return false
		}
	}
	return true
}

// taken: does forward take the step, as a clause that follows or one that is there?
func taken(w *forward.Forward, s api.Step) bool {
	if s.Drop {
		what, e := w.Drop(s.Lits)
		return e == api.OK && what != forward.Missing
	}
	what, e := w.Add(s.Lits)
	return e == api.OK && what == rup.Rup
}
