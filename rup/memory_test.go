package rup_test

import (
	"slices"
	"sync"
	"testing"

	"depot/api"
	"depot/rup"
)

// behind: the list at the head of a longer memory, so that what is written behind its end can be seen.
func behind[E any](list []E, further ...E) []E {
	return append(slices.Clone(list), further...)[:len(list)]
}

// whole: the list with all the room behind its end.
func whole[E any](list []E) []E {
	return list[:cap(list)]
}

// roomy: the formula in memory of its own, with something behind each end.
func roomy(f api.Formula) api.Formula {
	out := form(f.Vars)
	for _, d := range f.Clauses {
		out.Clauses = append(out.Clauses, behind(d, 77, -78, 79, -80))
	}
	out.Clauses = behind(out.Clauses, c(1), c(-1, 2), nil)
	return out
}

// seen: all that can be seen of a formula, the places behind its ends too, copied.
func seen(f api.Formula) [][]int {
	var out [][]int
	for _, d := range whole(f.Clauses) {
		out = append(out, slices.Clone(whole(d)))
	}
	return out
}

// spoil writes all over a list and the room behind its end, and lets it grow.
func spoil[E any](list []E, with E) {
	for k := range whole(list) {
		whole(list)[k] = with
	}
	for range 20 {
		list = append(list, with)
	}
}

// spoilAll writes all over a formula and a clause.
func spoilAll(f api.Formula, clause []int) {
	for _, d := range f.Clauses {
		spoil(d, 999)
	}
	spoil(f.Clauses, c(888))
	spoil(clause, 999)
}

// arguments shows formulas and clauses with room behind all ends, some that are refused among them.
func arguments(show func(f api.Formula, clause []int)) {
	each(func(f api.Formula, clause []int) {
		show(roomy(f), behind(clause, 77, -78, 79, -80))
	})
	for _, f := range append(misshaped(), over(c(-1, 2), c(-1, -2), c(2, 1, 2))) {
		for _, clause := range [][]int{nil, c(1), c(1, -1), c(0), c(2, 1, 2)} {
			show(roomy(f), behind(clause, 77, -78, 79, -80))
		}
	}
}

// Memory: what comes in is read, no more, nor are the places behind it written.
func TestArgumentsStay(t *testing.T) {
	arguments(func(f api.Formula, clause []int) {
		was, wasClause := seen(f), slices.Clone(whole(clause))
		told(f, clause)
		rup.Partners(f, 1)
		rup.Partners(f, -2)
		rup.Partners(f, 0)
		if !slices.EqualFunc(seen(f), was, slices.Equal[[]int]) || !slices.Equal(whole(clause), wasClause) {
			t.Errorf("written into what came in: %v; %v, was %v; %v", seen(f), whole(clause), was, wasClause)
		}
	})
}

// Memory: nobody remembers what came in: written over behind the calls, it changes no later answer, of other formulas and of its own.
func TestArgumentsAreForgotten(t *testing.T) {
	fixed, clause := over(c(-1, 2), c(-1, 3, 4), c(2, 3), c(2, -3)), c(1, -4)
	want := told(fixed, clause)
	arguments(func(f api.Formula, clause2 []int) {
		first := told(f, clause2)
		again, againClause := roomy(f), slices.Clone(clause2)
		spoilAll(f, clause2)
		if got := told(again, againClause); !slices.Equal(got, first) {
			t.Errorf("%s: %v, was %v", shown(again, againClause), got, first)
		}
		if got := told(fixed, clause); !slices.Equal(got, want) {
			t.Errorf("%s: %v, was %v", shown(fixed, clause), got, want)
		}
	})
}

// Memory: what Partners answers is the caller's, with the room behind its end.
func TestPartnersAreTheCallers(t *testing.T) {
	arguments(func(f api.Formula, clause []int) {
		was := seen(f)
		for _, l := range c(1, -1, 2, -2, 3) {
			one, two := rup.Partners(f, l), rup.Partners(f, l)
			want := slices.Clone(one)
			grown := append(one, 555)
			spoil(grown, 777)
			spoil(one, 666)
			if !slices.Equal(two, want) || !slices.Equal(rup.Partners(f, l), want) {
				t.Errorf("%s: another answer is spoilt: %v, was %v", shown(f, c(l)), two, want)
			}
			if !slices.EqualFunc(seen(f), was, slices.Equal[[]int]) {
				t.Errorf("an answer shares the memory of what came in: %v, was %v", seen(f), was)
			}
		}
		three := rup.Partners(f, 1)
		want := slices.Clone(three)
		spoilAll(f, clause)
		if !slices.Equal(three, want) {
			t.Errorf("an answer changes with what came in: %v, was %v", three, want)
		}
	})
}

// toldOf: all that the calls answer of a drawn formula and clause, as numbers.
func toldOf(seed uint64) []int {
	f, clause := drawn(seed).longer()
	return toldAll(f, clause)
}

// toldAll: what told tells, and the partners of all literals.
func toldAll(f api.Formula, clause []int) []int {
	out := told(f, clause)
	for v := 1; v <= f.Vars; v++ {
		out = append(append(out, 0), rup.Partners(f, v)...)
		out = append(append(out, 0), rup.Partners(f, -v)...)
	}
	return out
}

// Sameness: the same calls answer the same.
func TestSameAgain(t *testing.T) {
	for seed := range uint64(200) {
		want := toldOf(seed)
		for range 3 {
			if !slices.Equal(toldOf(seed), want) {
				t.Fatalf("the calls of %d answered otherwise", seed)
			}
		}
	}
}

// Sameness: so they do while others call, on the same formula too.
func TestSameBesideOneAnother(t *testing.T) {
	var want [][]int
	for seed := range uint64(10) {
		want = append(want, toldOf(seed))
	}
	f := over(c(-1, 2), c(2, 3), c(2, -3, 4), c(-4, -3), c(-1, 5), c(5, 6), c(5, 7), c(-6, -7))
	of := toldAll(f, c(1))
	var group sync.WaitGroup
	for k := range 16 {
		group.Go(func() {
			for range 5 {
				if seed := k % 10; !slices.Equal(toldOf(uint64(seed)), want[seed]) {
					t.Errorf("the calls of %d answered otherwise", seed)
				}
				if !slices.Equal(toldAll(f, c(1)), of) {
					t.Errorf("the calls of one formula answered otherwise")
				}
			}
		})
	}
	group.Wait()
}
