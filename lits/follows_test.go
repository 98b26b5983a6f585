package lits_test

import (
	"slices"
	"testing"

	"depot/lits"
)

// models: all models of so many variables.
func models(vars int) [][]bool {
	var out [][]bool
	for k := range 1 << vars {
		m := make([]bool, vars)
		for v := range m {
			m[v] = k>>v&1 == 1
		}
		out = append(out, m)
	}
	return out
}

// makesTrue: does the model make a literal of the clause true?
func makesTrue(m []bool, c []int) bool {
	return slices.ContainsFunc(c, func(l int) bool {
		if l < 0 {
			return !m[-l-1]
		}
		return m[l-1]
	})
}

// P1.7: a model that makes a literal of a true and one of b makes one of each resolvent true.
func TestResolventsFollow(t *testing.T) {
	all, ms := lists(3, 1, -1, 2, -2, 3, -3), models(3)
	steps := 0
	for _, a := range all {
		for _, b := range all {
			for v, r := range lits.Resolvents(a, b) {
				steps++
				for _, m := range ms {
					if makesTrue(m, a) && makesTrue(m, b) && !makesTrue(m, r) {
						t.Fatalf("%v and %v on %d: %v, which the model %v doesn't make true", a, b, v, r, m)
					}
				}
			}
		}
	}
	if steps == 0 {
		t.Error("no resolvent")
	}
}

// P1.7: Subsumes, and what models say of it, both ways round.
func TestSubsumesFollows(t *testing.T) {
	all, ms := lists(3, 1, -1, 2, -2, 3), models(3)
	for _, a := range all {
		for _, b := range all {
			each := !slices.ContainsFunc(ms, func(m []bool) bool { return makesTrue(m, a) && !makesTrue(m, b) })
			if lits.Subsumes(a, b) && !each {
				t.Fatalf("Subsumes(%v, %v), and a model tells them apart", a, b)
			}
			if each && !lits.Taut(b) && !lits.Subsumes(a, b) {
				t.Fatalf("not Subsumes(%v, %v), and each model of the one is the other's", a, b)
			}
		}
	}
}
