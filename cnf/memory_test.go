package cnf_test

import (
	"slices"
	"sync"
	"testing"

	"depot/api"
	"depot/cnf"
)

// behind: the list at the head of a longer memory, so that what is written behind its end can be seen.
func behind[E any](list []E, further ...E) []E {
	return append(slices.Clone(list), further...)[:len(list)]
}

// whole: the list with all the room behind its end.
func whole[E any](list []E) []E {
	return list[:cap(list)]
}

// roomy: the formula in memory of its own, with something behind each end.
func roomy(f api.Formula) api.Formula {
	out := form(f.Vars)
	for _, d := range f.Clauses {
		out.Clauses = append(out.Clauses, behind(d, 77, -78, 79, -80))
	}
	out.Clauses = behind(out.Clauses, c(1), c(-1, 2), nil)
	return out
}

// seen: all that can be seen of a formula, the places behind its ends too, copied.
func seen(f api.Formula) api.Formula {
	out := form(f.Vars)
	for _, d := range whole(f.Clauses) {
		out.Clauses = append(out.Clauses, slices.Clone(whole(d)))
	}
	return out
}

// copied: the formula in memory of its own.
func copied(f api.Formula) api.Formula {
	out := form(f.Vars)
	for _, d := range f.Clauses {
		out.Clauses = append(out.Clauses, slices.Clone(d))
	}
	return out
}

// spoilClause writes all over a clause and the room behind its end.
func spoilClause(d []int) {
	for k := range whole(d) {
		whole(d)[k] = 999
	}
}

// spoil writes all over a formula's clauses and its list of them.
func spoil(f api.Formula) {
	for _, d := range whole(f.Clauses) {
		spoilClause(d)
	}
	for k := range whole(f.Clauses) {
		whole(f.Clauses)[k] = c(888)
	}
}

// calls: every call that answers a formula, on the same arguments.
func calls(f, g api.Formula, part []int) map[string]func() api.Formula {
	answer := func(out api.Formula, _ api.Errno) api.Formula { return out }
	return map[string]func() api.Formula{
		"Tidy":          func() api.Formula { return answer(cnf.Tidy(f)) },
		"Join":          func() api.Formula { return answer(cnf.Join(f, g)) },
		"Join itself":   func() api.Formula { return answer(cnf.Join(f, f)) },
		"Under":         func() api.Formula { return answer(cnf.Under(f, part)) },
		"Under nothing": func() api.Formula { return answer(cnf.Under(f, nil)) },
	}
}

// arguments: formulas, parts and models on which all calls have something to do, with room behind all ends.
func arguments() (f, g api.Formula, part []int, m []bool) {
	shared := c(3, -1, 3)
	f = roomy(form(3, c(1, 2), c(2, 1), c(3, -3), c(), shared, shared, c(-2), c(1, -1)))
	g = roomy(form(2, c(2, -1), c()))
	return f, g, behind(c(-2, -2), 77, 78), behind([]bool{true, false, true}, true, true)
}

// Memory: what comes in is read, no more, nor are the places behind it written.
func TestArgumentsStay(t *testing.T) {
	f, g, part, m := arguments()
	wantF, wantG, wantPart, wantM := seen(f), seen(g), slices.Clone(whole(part)), slices.Clone(whole(m))
	check := func(what string) {
		t.Helper()
		if !equal(seen(f), wantF) || !equal(seen(g), wantG) || !slices.Equal(whole(part), wantPart) || !slices.Equal(whole(m), wantM) {
			t.Fatalf("%s has written into what came in", what)
		}
	}
	for what, call := range calls(f, g, part) {
		call()
		check(what)
	}
	cnf.Formed(f)
	cnf.Size(f)
	cnf.Satisfies(f, m)
	cnf.False(f, m)
	check("a call that asks")
	round(cnf.Models(g))
	cnf.Count(g)
	cnf.Entails(g, part)
	check("a call that goes through the models")
}

// Memory: an answer is the caller's, with the room behind its ends; Sameness: the next call answers the same.
func TestAnswersAreTheCallers(t *testing.T) {
	f, g, part, m := arguments()
	wantF, wantG, wantPart := seen(f), seen(g), slices.Clone(whole(part))
	for what, call := range calls(f, g, part) {
		first, second := call(), call()
		want := copied(first)
		answered(t, what+" again", second, api.OK, want)
		spoil(first)
		answered(t, what+", another answer spoilt", second, api.OK, want)
		answered(t, what+" once more", call(), api.OK, want)
		if !equal(seen(f), wantF) || !equal(seen(g), wantG) || !slices.Equal(whole(part), wantPart) {
			t.Fatalf("an answer of %s shares the memory of what came in", what)
		}
	}
	first, second := cnf.False(f, m), cnf.False(f, m)
	want := slices.Clone(first)
	spoilClause(first)
	if !slices.Equal(second, want) || !slices.Equal(cnf.False(f, m), want) || len(want) == 0 {
		t.Errorf("False, another answer spoilt: %v, not %v", second, want)
	}
}

// Memory: no two clauses of one answer share anything, whether they did so coming in or not.
func TestClausesAreApart(t *testing.T) {
	memory := c(1, 2, -3, 3, 1)
	f := form(3, memory, memory[:2], memory[1:3], memory[4:], memory[:0], memory)
	for what, call := range calls(f, f, c(-2)) {
		want := call()
		for k := range want.Clauses {
			got := call()
			spoilClause(append(got.Clauses[k], 5))
			spoilClause(got.Clauses[k])
			got.Clauses[k], want.Clauses[k] = nil, nil
			answered(t, what+", one clause spoilt", got, api.OK, want)
			want = call()
		}
	}
	if !slices.Equal(memory, c(1, 2, -3, 3, 1)) {
		t.Errorf("the clauses that came in: %v", memory)
	}
}

// Memory: nobody remembers a list when the call has answered.
func TestArgumentsAreForgotten(t *testing.T) {
	f, g, part, _ := arguments()
	got, want := map[string]api.Formula{}, map[string]api.Formula{}
	for what, call := range calls(f, g, part) {
		got[what] = call()
		want[what] = copied(got[what])
	}
	spoil(f)
	spoil(g)
	spoilClause(part)
	for what := range got {
		answered(t, what+", its arguments spoilt", got[what], api.OK, want[what])
	}
}

// Sameness: many goroutines that call at the same time hear the same, and share nothing.
func TestSameBesideOneAnother(t *testing.T) {
	f, g, part, m := arguments()
	all, seq := calls(f, g, part), cnf.Models(form(3, c(1, 2)))
	want, models, no := map[string]api.Formula{}, round(seq), cnf.False(f, m)
	for what, call := range all {
		want[what] = call()
	}
	n, _ := cnf.Count(form(3, c(1, 2)))
	var group sync.WaitGroup
	for range 8 {
		group.Go(func() {
			for what, call := range all {
				got := call()
				answered(t, what, got, api.OK, want[what])
				spoil(got)
			}
			sameModels(t, "one sequence", round(seq), models)
			if k, e := cnf.Count(form(3, c(1, 2))); k != n || e != api.OK || !slices.Equal(cnf.False(f, m), no) {
				t.Errorf("Count or False: %d, error %d, %v", k, e, cnf.False(f, m))
			}
		})
	}
	group.Wait()
}
