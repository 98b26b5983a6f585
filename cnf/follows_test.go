package cnf_test

import (
	"slices"
	"testing"

	"depot/api"
	"depot/cnf"
	"depot/lits"
)

// few: formulas of three variables, some of which no model satisfies.
func few() []api.Formula {
	return formulas(3, 2, c(), c(1), c(-1), c(-3, 2, -3), c(3, -2), c(2, 1), c(2, -2, 1), c(-1, -2, 3), c(1, 2, -3))
}

// P2.8: a model satisfies Tidy(f) just if it satisfies f.
func TestTidyFollows(t *testing.T) {
	for _, f := range few() {
		g, _ := cnf.Tidy(f)
		for _, m := range counted(3) {
			if cnf.Satisfies(f, m) != cnf.Satisfies(g, m) {
				t.Fatalf("%v and, tidy, %v: told apart by %v", f, g, m)
			}
		}
	}
}

// P2.8: a model satisfies Join(f, g) just if it satisfies both.
func TestJoinFollows(t *testing.T) {
	for _, f := range few() {
		for _, g := range few() {
			both, _ := cnf.Join(f, g)
			for _, m := range counted(3) {
				if cnf.Satisfies(both, m) != (cnf.Satisfies(f, m) && cnf.Satisfies(g, m)) {
					t.Fatalf("%v and %v, joined: told apart by %v", f, g, m)
				}
			}
		}
	}
}

// P2.8: a model that makes each literal of part true satisfies Under(f, part) just if it satisfies f.
func TestUnderFollows(t *testing.T) {
	for _, f := range few() {
		for _, part := range [][]int{nil, c(1), c(-2), c(3, -1), c(2, 1, -3), c(-3, -3)} {
			left, e := cnf.Under(f, part)
			if e != api.OK {
				t.Fatalf("Under(%v, %v): error %d", f, part, e)
			}
			for _, m := range counted(3) {
				if slices.ContainsFunc(part, func(l int) bool { return !isTrue(m, c(l)) }) {
					continue
				}
				if cnf.Satisfies(f, m) != cnf.Satisfies(left, m) {
					t.Fatalf("%v and, under %v, %v: told apart by %v", f, part, left, m)
				}
			}
		}
	}
}

// P2.8: Entails(f, c) just if no model satisfies f with the opposites of c's literals beside it.
func TestEntailsFollows(t *testing.T) {
	for _, f := range few() {
		for _, d := range append(clausesOfTwo(), c(3), c(-3, 1, 2), c(1, -2, -3)) {
			against := form(f.Vars)
			for _, l := range d {
				against.Clauses = append(against.Clauses, c(-l))
			}
			beside, _ := cnf.Join(f, against)
			n, _ := cnf.Count(beside)
			if yes, e := cnf.Entails(f, d); e != api.OK || yes != (n == 0) {
				t.Fatalf("Entails(%v, %v): %v, error %d; %d models against it", f, d, yes, e, n)
			}
		}
	}
}

// P2.8: resolvents of two clauses follow.
func TestResolventsFollow(t *testing.T) {
	resolvents := 0
	for _, f := range few() {
		for _, a := range f.Clauses {
			for _, b := range f.Clauses {
				for v := 1; v <= f.Vars; v++ {
					r, e := lits.Resolve(a, b, v)
					if e != api.OK {
						continue
					}
					resolvents++
					if yes, e := cnf.Entails(f, r); !yes || e != api.OK {
						t.Fatalf("Entails(%v, %v): %v, error %d, a resolvent on %d", f, r, yes, e, v)
					}
				}
			}
		}
	}
	if resolvents == 0 {
		t.Error("no resolvent")
	}
}
