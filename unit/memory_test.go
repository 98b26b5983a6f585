package unit_test

import (
	"slices"
	"sync"
	"testing"

	"depot/api"
	"depot/unit"
)

// behind: the list at the head of a longer memory, so that what is written behind its end can be seen.
func behind[E any](list []E, further ...E) []E {
	return append(slices.Clone(list), further...)[:len(list)]
}

// whole: the list with all the room behind its end.
func whole[E any](list []E) []E {
	return list[:cap(list)]
}

// roomy: the formula in memory of its own, with something behind each end.
func roomy(f api.Formula) api.Formula {
	out := form(f.Vars)
	for _, d := range f.Clauses {
		out.Clauses = append(out.Clauses, behind(d, 77, -78, 79, -80))
	}
	out.Clauses = behind(out.Clauses, c(1), c(-1, 2), nil)
	return out
}

// seen: all that can be seen of a formula, the places behind its ends too, copied.
func seen(f api.Formula) [][]int {
	var out [][]int
	for _, d := range whole(f.Clauses) {
		out = append(out, slices.Clone(whole(d)))
	}
	return out
}

// spoil writes all over a list and the room behind its end, and lets it grow.
func spoil[E any](list []E, with E) {
	for k := range whole(list) {
		whole(list)[k] = with
	}
	for range 20 {
		list = append(list, with)
	}
}

// arguments: formulas and facts on which all calls have something to do, with room behind all ends.
func arguments() []struct {
	f     api.Formula
	facts []int
} {
	shared := c(-2, 4, -2)
	f := form(5, c(1), c(-1, 2), shared, shared, c(5, -5), c(-4, -3))
	g := form(5, c(1, 2), c(-1, 2), c(-2, 3), c(-3, -2, 3), c(-5, -3), c())
	h := form(4, c(-2), c(1), c(-1, 2), c(3))
	k := form(3, c(-1, 2), c(-1, -2), c(-3, 1))
	var out []struct {
		f     api.Formula
		facts []int
	}
	for _, f := range []api.Formula{f, g, h, k, form(2), form(1, c(2)), form(0, c())} {
		for _, facts := range [][]int{nil, c(3), c(7, 2, 7), c(-3, 4, -3), c(1, -1), c(0)} {
			out = append(out, struct {
				f     api.Formula
				facts []int
			}{roomy(f), behind(facts, 77, -78, 79, -80)})
		}
	}
	return out
}

// P6.7, Memory: what comes in is read, no more, nor are the places behind it written.
func TestArgumentsStay(t *testing.T) {
	for _, a := range arguments() {
		f, facts := seen(a.f), slices.Clone(whole(a.facts))
		unit.Close(a.f, a.facts)
		unit.Why(a.f, a.facts)
		unit.Forces(a.f, a.facts, 2)
		unit.Forces(a.f, a.facts, 0)
		unit.Probe(a.f)
		if !slices.EqualFunc(seen(a.f), f, slices.Equal[[]int]) || !slices.Equal(whole(a.facts), facts) {
			t.Errorf("written into what came in: %v; %v", seen(a.f), whole(a.facts))
		}
	}
}

// apart says where answers of one call share memory with one another or with what came in.
func apart[E comparable](t *testing.T, what string, f api.Formula, facts []int, with E, call func() []E) {
	t.Helper()
	cameF, cameFacts := seen(f), slices.Clone(whole(facts))
	one, two := call(), call()
	want := slices.Clone(one)
	grown := append(one, with)
	spoil(one, with)
	spoil(grown, with)
	if !slices.Equal(two, want) || !slices.Equal(call(), want) {
		t.Errorf("%s of %v; %v: another answer is spoilt: %v, was %v", what, f, facts, two, want)
	}
	if !slices.EqualFunc(seen(f), cameF, slices.Equal[[]int]) || !slices.Equal(whole(facts), cameFacts) {
		t.Errorf("%s: an answer shares the memory of what came in: %v; %v", what, seen(f), whole(facts))
	}
	three := call()
	want = slices.Clone(three)
	for _, d := range f.Clauses {
		spoil(d, 999)
	}
	spoil(f.Clauses, c(888))
	spoil(facts, 999)
	if !slices.Equal(three, want) {
		t.Errorf("%s: an answer changes with what came in: %v, was %v", what, three, want)
	}
}

// P6.7, Memory: an answer is the caller's, with the room behind its end, and nobody remembers what came in.
func TestAnswersAreTheCallers(t *testing.T) {
	for _, a := range arguments() {
		apart(t, "Close", a.f, a.facts, 999, func() []int {
			l, _, _ := unit.Close(a.f, a.facts)
			return l
		})
	}
	for _, a := range arguments() {
		apart(t, "Why", a.f, a.facts, api.Cause{Lit: 999, Clause: 999}, func() []api.Cause {
			l, _, _ := unit.Why(a.f, a.facts)
			return l
		})
	}
	for _, a := range arguments() {
		apart(t, "Probe", a.f, a.facts, 999, func() []int {
			l, _ := unit.Probe(a.f)
			return l
		})
	}
}

// told: all that the calls answer of a drawn formula and facts, as numbers.
func told(seed uint64) []int {
	f, facts := drawn(seed).longer()
	out := toldOf(f, facts)
	causes, clause, e := unit.Why(f, facts)
	for _, cause := range causes {
		out = append(out, cause.Lit, cause.Clause)
	}
	return append(out, clause, int(e))
}

// Sameness: the same calls answer the same.
func TestSameAgain(t *testing.T) {
	for seed := range uint64(100) {
		want := told(seed)
		for range 3 {
			if !slices.Equal(told(seed), want) {
				t.Fatalf("the calls of %d answered otherwise", seed)
			}
		}
	}
}

// Sameness: so they do while others call, on the same formula too.
func TestSameBesideOneAnother(t *testing.T) {
	var want [][]int
	for seed := range uint64(10) {
		want = append(want, told(seed))
	}
	f, facts := drawn(99).longer()
	of := toldOf(f, facts)
	var group sync.WaitGroup
	for k := range 16 {
		group.Go(func() {
			for range 5 {
				if seed := k % 10; !slices.Equal(told(uint64(seed)), want[seed]) {
					t.Errorf("the calls of %d answered otherwise", seed)
				}
				if !slices.Equal(toldOf(f, facts), of) {
					t.Errorf("the calls of one formula answered otherwise")
				}
			}
		})
	}
	group.Wait()
}
