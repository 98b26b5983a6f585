package cnf_test

import (
	"iter"
	"slices"
	"testing"

	"depot/api"
	"depot/cnf"
)

// round: all models of one round.
func round(seq iter.Seq[[]bool]) [][]bool {
	var out [][]bool
	for m := range seq {
		out = append(out, m)
	}
	return out
}

// counted: all lists of so many truths, in the order of counting, by its words.
func counted(vars int) [][]bool {
	var out [][]bool
	for number := range 1 << vars {
		m := make([]bool, vars)
		for v := range m {
			m[v] = number>>v&1 == 1
		}
		out = append(out, m)
	}
	return out
}

// isTrue: does the model make a literal of the clause true, by the document's words?
func isTrue(m []bool, d []int) bool {
	return slices.ContainsFunc(d, func(l int) bool {
		if l < 0 {
			return !m[-l-1]
		}
		return m[l-1]
	})
}

// satisfied: the models of a well shaped formula, by the document's words.
func satisfied(f api.Formula) [][]bool {
	return slices.DeleteFunc(counted(f.Vars), func(m []bool) bool {
		return slices.ContainsFunc(f.Clauses, func(d []int) bool { return !isTrue(m, d) })
	})
}

func sameModels(t *testing.T, what string, got, want [][]bool) {
	t.Helper()
	if !slices.EqualFunc(got, want, slices.Equal[[]bool]) {
		t.Errorf("%s: %v, not %v", what, got, want)
	}
}

// P2.6: the document's examples, and the edges.
func TestModels(t *testing.T) {
	for _, x := range []struct {
		f    api.Formula
		want [][]bool
	}{
		{form(2, c(1, 2)), [][]bool{{true, false}, {false, true}, {true, true}}},
		{form(2), [][]bool{{false, false}, {true, false}, {false, true}, {true, true}}},
		{form(0), [][]bool{{}}},
		{form(0, c()), nil},
		{form(1, c(1), c(-1)), nil},
		{form(3, c(-3, -3), c(1, -1), c(2)), [][]bool{{false, true, false}, {true, true, false}}},
	} {
		sameModels(t, "Models", round(cnf.Models(x.f)), x.want)
	}
}

// P2.6: nothing of what isn't well shaped, or has too many variables.
func TestModelsNone(t *testing.T) {
	wide := []api.Formula{form(api.MaxBrute + 1), form(api.MaxBrute+1, c()), form(api.MaxBrute+1, c(1)), form(api.MaxVar)}
	for _, f := range append(wide, misshaped()...) {
		for m := range cnf.Models(f) {
			t.Fatalf("Models(%v): %v", f, m)
		}
	}
}

// P2.6, of as many variables as are gone through: in the order of counting, each once.
func TestModelsMost(t *testing.T) {
	all := counted(api.MaxBrute)
	if got := round(cnf.Models(form(api.MaxBrute))); !slices.EqualFunc(got, all, slices.Equal[[]bool]) {
		t.Errorf("Models of no clause: %d, or in another order", len(got))
	}
	last := form(api.MaxBrute)
	for v := 1; v <= api.MaxBrute; v++ {
		last.Clauses = append(last.Clauses, c(v))
	}
	sameModels(t, "the last one alone", round(cnf.Models(last)), all[len(all)-1:])
}

// P2.4, P2.6 and P2.7 by their words, model by model.
func TestModelsByWords(t *testing.T) {
	for _, f := range some() {
		want := satisfied(f)
		sameModels(t, "Models", round(cnf.Models(f)), want)
		if n, e := cnf.Count(f); n != len(want) || e != api.OK {
			t.Fatalf("Count(%v): %d, error %d, not %d", f, n, e, len(want))
		}
		for _, m := range counted(f.Vars) {
			var no []int
			for i, d := range f.Clauses {
				if !isTrue(m, d) {
					no = append(no, i)
				}
			}
			if got := cnf.Satisfies(f, m); got != (no == nil) {
				t.Fatalf("Satisfies(%v, %v): %v", f, m, got)
			}
			if got := cnf.False(f, m); !slices.Equal(got, no) {
				t.Fatalf("False(%v, %v): %v, not %v", f, m, got, no)
			}
		}
		for _, d := range clausesOfTwo() {
			follows := !slices.ContainsFunc(want, func(m []bool) bool { return !isTrue(m, d) })
			if got, e := cnf.Entails(f, d); got != follows || e != api.OK {
				t.Fatalf("Entails(%v, %v): %v, error %d", f, d, got, e)
			}
		}
	}
}

// clausesOfTwo: the clauses over two variables, some with a literal twice or beside its opposite.
func clausesOfTwo() [][]int {
	return [][]int{c(), c(1), c(-1), c(2, 2), c(-2), c(1, 2), c(-2, 1), c(-1, 2), c(-1, -2), c(1, -1), c(2, 1, -2)}
}

// P2.7: the edges, and the refusals in their order.
func TestCount(t *testing.T) {
	for _, x := range []struct {
		f    api.Formula
		want int
		e    api.Errno
	}{
		{form(2, c(1, 2)), 3, api.OK},
		{form(0), 1, api.OK},
		{form(0, c()), 0, api.OK},
		{form(3, c(1, 1), c(2, -2)), 4, api.OK},
		{form(api.MaxBrute), 65536, api.OK},
		{form(api.MaxBrute, c(api.MaxBrute)), 32768, api.OK},
		{form(api.MaxBrute + 1), 0, api.ErrRoom},
		{form(api.MaxBrute+1, c()), 0, api.ErrRoom},
		{form(api.MaxVar), 0, api.ErrRoom},
		{form(api.MaxBrute+1, c(api.MaxBrute+2)), 0, api.ErrShape},
		{form(beyond), 0, api.ErrShape},
	} {
		if got, e := cnf.Count(x.f); got != x.want || e != x.e {
			t.Errorf("Count(%v): %d, error %d, not %d, error %d", x.f, got, e, x.want, x.e)
		}
	}
	for _, f := range misshaped() {
		if got, e := cnf.Count(f); got != 0 || e != api.ErrShape {
			t.Errorf("Count(%v): %d, error %d", f, got, e)
		}
	}
}

// P2.7: the document's examples, the edges, and the refusals in their order.
func TestEntails(t *testing.T) {
	for _, x := range []struct {
		f    api.Formula
		c    []int
		want bool
		e    api.Errno
	}{
		{form(2, c(1, 2), c(-1, 2)), c(2), true, api.OK},
		{form(2, c(1, 2), c(-1, 2)), c(1), false, api.OK},
		{form(2, c(1, 2), c(-1, 2)), c(), false, api.OK},
		{form(1, c(1), c(-1)), c(), true, api.OK},
		{form(0), c(), false, api.OK},
		{form(0, c()), c(), true, api.OK},
		{form(1), c(1, -1), true, api.OK},
		{form(2, c(1)), c(2, 1, 2), true, api.OK},
		{form(api.MaxBrute, c(api.MaxBrute)), c(api.MaxBrute), true, api.OK},
		{form(api.MaxBrute), c(-api.MaxBrute), false, api.OK},
		{form(2, c(1)), c(3), false, api.ErrShape},
		{form(2, c(1)), c(1, -3), false, api.ErrShape},
		{form(0), c(1), false, api.ErrShape},
		{form(api.MaxBrute), c(api.MaxBrute + 1), false, api.ErrShape},
		{form(api.MaxBrute + 1), c(api.MaxBrute + 2), false, api.ErrShape},
		{form(api.MaxBrute+1, c()), c(), false, api.ErrRoom},
		{form(api.MaxBrute+1, c(1)), c(1), false, api.ErrRoom},
		{form(api.MaxVar), c(api.MaxVar), false, api.ErrRoom},
	} {
		if got, e := cnf.Entails(x.f, x.c); got != x.want || e != x.e {
			t.Errorf("Entails(%v, %v): %v, error %d, not %v, error %d", x.f, x.c, got, e, x.want, x.e)
		}
	}
}

// P2.7: a formula that isn't well shaped, a clause that isn't sound.
func TestEntailsWrong(t *testing.T) {
	for _, f := range misshaped() {
		for _, d := range [][]int{nil, c(1), c(1, -1)} {
			if got, e := cnf.Entails(f, d); got || e != api.ErrShape {
				t.Errorf("Entails(%v, %v): %v, error %d", f, d, got, e)
			}
		}
	}
	for _, l := range noLiterals() {
		for _, f := range []api.Formula{form(2), form(2, c()), form(api.MaxBrute + 1), form(api.MaxVar)} {
			for _, d := range [][]int{c(l), c(1, l), c(l, 1, -1)} {
				if got, e := cnf.Entails(f, d); got || e != api.ErrShape {
					t.Errorf("Entails(%v, %v): %v, error %d", f, d, got, e)
				}
			}
		}
	}
}

// P2.7, of many clauses that are the same: they are counted under once.
func TestCountLong(t *testing.T) {
	f := form(api.MaxBrute)
	for range 100000 {
		f.Clauses = append(f.Clauses, c(1, -2), c(-2, 1), c(3, -3))
	}
	if n, e := cnf.Count(f); n != 49152 || e != api.OK {
		t.Errorf("Count: %d, error %d", n, e)
	}
	if yes, e := cnf.Entails(f, c(1, -2)); !yes || e != api.OK {
		t.Errorf("Entails: %v, error %d", yes, e)
	}
}
