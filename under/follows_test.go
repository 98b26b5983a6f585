package under_test

import (
	"slices"
	"testing"

	"depot/api"
	"depot/forward"
	"depot/lits"
	"depot/rup"
	"depot/solve"
	"depot/under"
)

// P18.4: where Holds is true no model satisfies the formula and makes all of failed true, whoever wrote the steps.
func TestNoModelWhereHolds(t *testing.T) {
	yes := 0
	for seed := range uint64(6000) {
		draw := drawn(seed + 10000)
		vars := 2 + draw.Intn(5)
		f := draw.formula(vars, draw.Intn(5*vars))
		var proof []api.Step
		for range 1 + draw.Intn(4) {
			s := add(draw.literals(vars, 4)...)
			if kind, _ := rup.Kind(f, s.Lits); kind == rup.Rup || draw.Intn(8) == 0 {
				proof = append(proof, s)
			}
		}
		if len(proof) == 0 {
			continue
		}
		var failed []int
		for _, l := range proof[len(proof)-1].Lits {
			failed = append(failed, -l)
		}
		if !under.Holds(f, failed, proof) {
			continue
		}
		yes++
		if possible(f, failed) {
			t.Fatalf("Holds(%v, %v, %v), and there is a model", f, failed, proof)
		}
	}
	if yes < 500 {
		t.Errorf("only %d hold", yes)
	}
}

// P18.4: with no literals and no bound Solve is Sat just where solve.Solve is, and else its proof is one that forward accepts.
func TestNoLiterals(t *testing.T) {
	count := map[int]int{}
	for seed := range uint64(800) {
		draw := drawn(seed + 20000)
		f := draw.hard(3 + draw.Intn(25))
		if seed%2 == 0 {
			f = draw.loose(3 + draw.Intn(25))
		}
		config := draw.config()
		for _, assume := range [][]int{nil, {}} {
			o, failed := answered(t, f, assume, config)
			other, _ := solve.Solve(f, draw.config())
			if len(failed) != 0 || (o.End == api.Sat) != (other.End == api.Sat) {
				t.Fatalf("Solve(%v, none, %v) = %v, %v; solve: %v", f, config, o, failed, other)
			}
			if r, _ := forward.Check(f, o.Proof); o.End == api.Unsat && r != (api.Report{Code: api.Accepted, At: len(o.Proof) - 1}) {
				t.Fatalf("Solve(%v, none, %v): the check is %v", f, config, r)
			}
			count[o.End]++
		}
	}
	if count[api.Sat] < 200 || count[api.Unsat] < 200 {
		t.Errorf("only %v", count)
	}
}

// P18.4: a literal beside its opposite, at any places among others: Unsat.
func TestOpposites(t *testing.T) {
	for seed := range uint64(1500) {
		draw := drawn(seed + 30000)
		f := draw.loose(1 + draw.Intn(20))
		assume := draw.literals(f.Vars, 6)
		l := draw.literal(f.Vars)
		assume = slices.Insert(assume, draw.Intn(len(assume)+1), l)
		assume = slices.Insert(assume, draw.Intn(len(assume)+1), -l)
		config := draw.config()
		_, failed := ends(t, f, assume, config, api.Unsat)
		if o, some := least(t, f, assume, config); o.End != api.Unsat || lits.Taut(some) && len(some) != 2 {
			t.Fatalf("Least(%v, %v, %v) = %v, %v; Solve: %v", f, assume, config, o, some, failed)
		}
	}
}

// What follows from P18.1: with more literals, or more clauses, what was Unsat stays so; the literals that failed do so alone.
func TestMoreLiterals(t *testing.T) {
	unsat := 0
	for seed := range uint64(600) {
		draw := drawn(seed + 40000)
		f := draw.hard(5 + draw.Intn(20))
		f.Clauses = f.Clauses[:3*f.Vars]
		assume := draw.literals(f.Vars, 8)
		config := draw.config()
		o, failed := answered(t, f, assume, config)
		if o.End != api.Unsat {
			continue
		}
		unsat++
		ends(t, f, failed, config, api.Unsat)
		ends(t, f, append(draw.literals(f.Vars, 3), assume...), config, api.Unsat)
		f.Clauses = append(f.Clauses, draw.hard(f.Vars).Clauses[:3]...)
		ends(t, f, assume, config, api.Unsat)
	}
	if unsat < 100 {
		t.Errorf("only %d", unsat)
	}
}
