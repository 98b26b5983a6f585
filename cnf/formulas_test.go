package cnf_test

import (
	"math"
	"slices"
	"testing"

	"depot/api"
	"depot/cnf"
	"depot/lits"
)

// beyond is the least number above all variables.
const beyond = api.MaxVar + 1

// form: a formula of so many variables and these clauses.
func form(vars int, clauses ...[]int) api.Formula {
	return api.Formula{Vars: vars, Clauses: clauses}
}

// c: a clause.
func c(literals ...int) []int {
	return literals
}

func equal(f, g api.Formula) bool {
	return f.Vars == g.Vars && slices.EqualFunc(f.Clauses, g.Clauses, slices.Equal[[]int])
}

// answered says where a call that answers a formula hasn't answered what is wanted.
func answered(t *testing.T, what string, got api.Formula, e api.Errno, want api.Formula) {
	t.Helper()
	if e != api.OK || !equal(got, want) {
		t.Errorf("%s: %v, error %d, not %v", what, got, e, want)
	}
}

// refused says where a call that answers a formula hasn't refused with just that error.
func refused(t *testing.T, what string, got api.Formula, e, want api.Errno) {
	t.Helper()
	if e != want || got.Vars != 0 || len(got.Clauses) != 0 {
		t.Errorf("%s: %v, error %d, not error %d alone", what, got, e, want)
	}
}

// shaped: formulas that are well shaped, at the edges that the document names.
func shaped() []api.Formula {
	return []api.Formula{
		form(3, c(1, -2), c(3)),
		form(0),
		form(0, c()),
		form(0, nil, nil),
		form(2, c(1, 1)),
		form(2, c(1, -1)),
		form(2, c(2, -2, 1), c(), c(-2)),
		form(5),
		form(api.MaxBrute, c(api.MaxBrute)),
		form(api.MaxBrute+1, c(-api.MaxBrute-1)),
		form(api.MaxVar),
		form(api.MaxVar, c(api.MaxVar), c(-api.MaxVar)),
	}
}

// misshaped: formulas that aren't.
func misshaped() []api.Formula {
	out := []api.Formula{
		form(2, c(1, -3)),
		form(2, c(3)),
		form(2, c(), c(1), c(1, 2, 3)),
		form(0, c(1)),
		form(-1),
		form(-1, c()),
		form(-1, c(1)),
		form(beyond),
		form(beyond, c(1)),
		form(math.MaxInt),
		form(math.MinInt),
		form(api.MaxVar-1, c(api.MaxVar)),
		form(api.MaxVar-1, c(-api.MaxVar)),
	}
	for _, l := range noLiterals() {
		out = append(out, form(2, c(l)), form(2, c(1), c(2, l)), form(api.MaxVar, c(l, 1)))
	}
	return out
}

// noLiterals: what is no literal, at the edges and far out.
func noLiterals() []int {
	return []int{0, beyond, -beyond, math.MaxInt, math.MinInt, math.MinInt + 1}
}

// formulas: all formulas of so many variables with up to so many clauses of these.
func formulas(vars, most int, clauses ...[]int) []api.Formula {
	all := []api.Formula{form(vars)}
	for from := 0; most > 0; most-- {
		to := len(all)
		for _, f := range all[from:to] {
			for _, d := range clauses {
				all = append(all, form(vars, append(slices.Clone(f.Clauses), d)...))
			}
		}
		from = to
	}
	return all
}

// some: formulas of two variables with everything in which clauses can differ.
func some() []api.Formula {
	return formulas(2, 3, c(), c(1), c(-1), c(-2, -2), c(2, 1), c(1, 2, 1), c(-1, 2), c(2, -1), c(1, -1), c(-2, 1, 2))
}

// P2.1.
func TestFormed(t *testing.T) {
	for _, f := range shaped() {
		if !cnf.Formed(f) {
			t.Errorf("Formed(%v): false", f)
		}
	}
	for _, f := range misshaped() {
		if cnf.Formed(f) {
			t.Errorf("Formed(%v): true", f)
		}
	}
}

// P2.1: also of formulas that aren't well shaped.
func TestSize(t *testing.T) {
	for _, x := range []struct {
		f    api.Formula
		want int
	}{
		{form(3, c(1, -2), c(3), c()), 3},
		{form(1, c(0, 7, 7)), 3},
		{form(0), 0},
		{form(0, c(), nil), 0},
		{form(-1, c(1, 1), c(math.MinInt)), 3},
		{form(beyond, c(beyond, -beyond), c(1, -1, 1)), 5},
	} {
		if got := cnf.Size(x.f); got != x.want {
			t.Errorf("Size(%v): %d, not %d", x.f, got, x.want)
		}
	}
}

// P2.2: the document's example, and the edges.
func TestTidy(t *testing.T) {
	for _, x := range []struct{ f, want api.Formula }{
		{form(3, c(2, 1), c(1, 2, 1), c(3, -3), c(), c(-1)), form(3, c(1, 2), c(), c(-1))},
		{form(0), form(0)},
		{form(7), form(7)},
		{form(0, c(), c(), nil), form(0, c())},
		{form(3, c(3), c(1), c(3), c(2), c(1)), form(3, c(3), c(1), c(2))},
		{form(3, c(1, -1), c(2, 3, -2)), form(3)},
		{form(4, c(-4, 4, 1), c(1, -2), c(-2, 1), c(-2, -1)), form(4, c(1, -2), c(-1, -2))},
		{form(123, c(1, 2), c(12), c(1, 23), c(123), c(1, 2, 3), c(2, 1)), form(123, c(1, 2), c(12), c(1, 23), c(123), c(1, 2, 3))},
		{form(api.MaxVar, c(-api.MaxVar, 1), c(api.MaxVar, api.MaxVar)), form(api.MaxVar, c(1, -api.MaxVar), c(api.MaxVar))},
	} {
		got, e := cnf.Tidy(x.f)
		answered(t, "Tidy", got, e, x.want)
	}
	for _, f := range misshaped() {
		got, e := cnf.Tidy(f)
		refused(t, "Tidy", got, e, api.ErrShape)
	}
}

// P2.2 by its words.
func TestTidyByWords(t *testing.T) {
	for _, f := range some() {
		want := form(f.Vars)
		for i, d := range f.Clauses {
			twice := slices.ContainsFunc(f.Clauses[:i], func(other []int) bool { return lits.Same(other, d) })
			if !lits.Taut(d) && !twice {
				want.Clauses = append(want.Clauses, lits.Tidy(d))
			}
		}
		got, e := cnf.Tidy(f)
		answered(t, "Tidy", got, e, want)
	}
}

// P2.2, of many clauses: none is held against each other one.
func TestTidyLong(t *testing.T) {
	f, want := form(api.MaxVar), form(api.MaxVar)
	for v := 2; v <= 100000; v++ {
		f.Clauses = append(f.Clauses, c(v, -1), c(-1, v, v), c(v, -v))
		want.Clauses = append(want.Clauses, c(-1, v))
	}
	f.Clauses = append(f.Clauses, f.Clauses...)
	if got, e := cnf.Tidy(f); e != api.OK || !equal(got, want) {
		t.Errorf("Tidy: %d clauses, error %d", len(got.Clauses), e)
	}
}

// P2.3.
func TestJoin(t *testing.T) {
	for _, x := range []struct{ f, g, want api.Formula }{
		{form(1, c(1)), form(3, c(-3, 2)), form(3, c(1), c(-3, 2))},
		{form(3, c(-3, 2)), form(1, c(1)), form(3, c(-3, 2), c(1))},
		{form(2, c(2, 1, 2), c(1, -1)), form(2, c(2, 1, 2), c()), form(2, c(2, 1, 2), c(1, -1), c(2, 1, 2), c())},
		{form(0), form(0), form(0)},
		{form(0), form(4), form(4)},
		{form(0, c()), form(0, nil), form(0, c(), c())},
		{form(api.MaxVar, c(api.MaxVar)), form(0), form(api.MaxVar, c(api.MaxVar))},
	} {
		got, e := cnf.Join(x.f, x.g)
		answered(t, "Join", got, e, x.want)
	}
	for _, f := range misshaped() {
		for _, g := range []api.Formula{form(0), form(api.MaxVar, c(1)), f} {
			got, e := cnf.Join(f, g)
			refused(t, "Join of what isn't well shaped", got, e, api.ErrShape)
			got, e = cnf.Join(g, f)
			refused(t, "Join with what isn't well shaped", got, e, api.ErrShape)
		}
	}
}

// P2.4: the document's examples, and the edges.
func TestSatisfiesAndFalse(t *testing.T) {
	for _, x := range []struct {
		f     api.Formula
		m     []bool
		false []int
	}{
		{form(2, c(1, 2), c(-1)), []bool{false, true}, nil},
		{form(2, c(1, 2), c(-1)), []bool{true, true}, []int{1}},
		{form(2, c(1, 2), c(-1)), []bool{false, false}, []int{0}},
		{form(2, c(1, 2), c(-1), c()), []bool{true, true}, []int{1, 2}},
		{form(2, c(1, 2), c(-1), c()), []bool{false, false}, []int{0, 2}},
		{form(0), nil, nil},
		{form(0), []bool{}, nil},
		{form(3), []bool{true, false, true}, nil},
		{form(0, c()), nil, []int{0}},
		{form(1, c(1, -1), c(1, 1)), []bool{false}, []int{1}},
		{form(3, c(3, 1), c(-2, -2), c(1)), []bool{false, true, true}, []int{1, 2}},
	} {
		if got := cnf.Satisfies(x.f, x.m); got != (x.false == nil) {
			t.Errorf("Satisfies(%v, %v): %v", x.f, x.m, got)
		}
		if got := cnf.False(x.f, x.m); !slices.Equal(got, x.false) {
			t.Errorf("False(%v, %v): %v, not %v", x.f, x.m, got, x.false)
		}
	}
}

// P2.4: no formula, or truths too few and too many.
func TestNoModel(t *testing.T) {
	for _, f := range []api.Formula{form(2), form(2, c(1), c(2)), form(2, c()), form(0), form(0, c())} {
		for n := range 5 {
			if n == f.Vars {
				continue
			}
			for _, m := range [][]bool{make([]bool, n), slices.Repeat([]bool{true}, n)} {
				if cnf.Satisfies(f, m) || len(cnf.False(f, m)) != 0 {
					t.Errorf("%v, %v: Satisfies %v, False %v", f, m, cnf.Satisfies(f, m), cnf.False(f, m))
				}
			}
		}
	}
	for _, f := range misshaped() {
		for n := range 3 {
			if m := make([]bool, n); cnf.Satisfies(f, m) || len(cnf.False(f, m)) != 0 {
				t.Errorf("%v, %v: Satisfies %v, False %v", f, m, cnf.Satisfies(f, m), cnf.False(f, m))
			}
		}
		if f.Vars >= 0 && f.Vars <= beyond {
			if m := make([]bool, f.Vars); cnf.Satisfies(f, m) || len(cnf.False(f, m)) != 0 {
				t.Errorf("%v, false throughout: Satisfies %v, False %v", f, cnf.Satisfies(f, m), cnf.False(f, m))
			}
		}
	}
}

// P2.4, of as many variables as there may be.
func TestSatisfiesMost(t *testing.T) {
	f := form(api.MaxVar, c(api.MaxVar), c(-1, -api.MaxVar))
	m := make([]bool, api.MaxVar)
	if got := cnf.False(f, m); cnf.Satisfies(f, m) || !slices.Equal(got, c(0)) {
		t.Errorf("false throughout: %v", got)
	}
	m[api.MaxVar-1] = true
	if got := cnf.False(f, m); !cnf.Satisfies(f, m) || len(got) != 0 {
		t.Errorf("the last one true: %v", got)
	}
}

// P2.5: the document's examples, and the edges.
func TestUnder(t *testing.T) {
	for _, x := range []struct {
		f    api.Formula
		part []int
		want api.Formula
	}{
		{form(3, c(1, -2), c(2, 3, 2), c(-3, 1)), c(2, -3), form(3, c(1))},
		{form(3, c(2, 3, 2)), c(-3), form(3, c(2, 2))},
		{form(1, c(1)), c(-1), form(1, c())},
		{form(1, c(1)), c(1), form(1)},
		{form(3, c(3, -1, 2, -1), c(), c(2, -2), c()), nil, form(3, c(3, -1, 2, -1), c(), c(2, -2), c())},
		{form(3, c(3, -1, 2, -1, 3)), c(1, 1), form(3, c(3, 2, 3))},
		{form(3, c(-1, 1), c(3, 2), c(3, 2)), c(-1, -1), form(3, c(3, 2), c(3, 2))},
		{form(3, c(-1, -2, -3), c(-3, -2), c(3)), c(1, 2, 3), form(3, c(), c())},
		{form(0, c()), nil, form(0, c())},
		{form(0), nil, form(0)},
		{form(api.MaxVar, c(api.MaxVar, 1), c(-api.MaxVar, 2)), c(api.MaxVar), form(api.MaxVar, c(2))},
		{form(api.MaxVar, c(api.MaxVar, 1), c(-api.MaxVar, 2)), c(-api.MaxVar), form(api.MaxVar, c(1))},
	} {
		got, e := cnf.Under(x.f, x.part)
		answered(t, "Under", got, e, x.want)
	}
}

// P2.5: the refusals, ErrShape ahead of ErrClash.
func TestUnderRefuses(t *testing.T) {
	for _, part := range [][]int{c(1, -1), c(2, 1, -2), c(-2, -2, 1, 2)} {
		for _, f := range []api.Formula{form(2), form(2, c(1)), form(2, c())} {
			got, e := cnf.Under(f, part)
			refused(t, "a part with opposites", got, e, api.ErrClash)
		}
	}
	for _, part := range [][]int{nil, c(1), c(1, -1)} {
		for _, f := range misshaped() {
			got, e := cnf.Under(f, part)
			refused(t, "a formula that isn't well shaped", got, e, api.ErrShape)
		}
	}
	for _, l := range append(noLiterals(), 3, -3, api.MaxVar) {
		for _, part := range [][]int{c(l), c(1, l), c(l, 1, -1), c(1, -1, l), c(l, l), c(l, -l)} {
			got, e := cnf.Under(form(2, c(1)), part)
			refused(t, "a part beyond the variables", got, e, api.ErrShape)
		}
	}
	got, e := cnf.Under(form(0), c(1))
	refused(t, "a part where there are no variables", got, e, api.ErrShape)
}

// P2.5 by its words.
func TestUnderByWords(t *testing.T) {
	for _, f := range some() {
		for _, part := range [][]int{nil, c(1), c(-1), c(2), c(-2, -2), c(1, 2), c(-2, 1), c(2, -1), c(-1, -2, -1)} {
			want := form(f.Vars)
			for _, d := range f.Clauses {
				if !slices.ContainsFunc(d, func(l int) bool { return slices.Contains(part, l) }) {
					left := slices.DeleteFunc(slices.Clone(d), func(l int) bool { return slices.Contains(part, -l) })
					want.Clauses = append(want.Clauses, left)
				}
			}
			got, e := cnf.Under(f, part)
			answered(t, "Under", got, e, want)
		}
	}
}

// P2.5, of a long part: it comes to its end soon.
func TestUnderLong(t *testing.T) {
	f, part, want := form(api.MaxVar), []int(nil), form(api.MaxVar)
	for v := 1; v < api.MaxVar; v += 2 {
		part = append(part, -v, v+1)
		f.Clauses = append(f.Clauses, c(v, -v-1), c(v, v+1))
		want.Clauses = append(want.Clauses, nil)
	}
	if got, e := cnf.Under(f, part); e != api.OK || !equal(got, want) {
		t.Errorf("Under: %d clauses, error %d", len(got.Clauses), e)
	}
}
