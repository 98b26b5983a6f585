package lits_test

import (
	"slices"
	"sync"
	"testing"

	"depot/lits"
)

// behind: the list at the head of a longer memory, so that what is written behind its end can be seen.
func behind(c []int) []int {
	return append(slices.Clone(c), 77, -78, 79, -80, 81, -82, 83, -84)[:len(c)]
}

// whole: the list with all the room behind its end.
func whole(c []int) []int {
	return c[:cap(c)]
}

// spoil writes all over a list and the room behind its end.
func spoil(c []int) {
	for k := range whole(c) {
		whole(c)[k] = 999
	}
}

// calls: every call that answers a list, on the same lists.
func calls(a, b []int) map[string]func() []int {
	return map[string]func() []int{
		"Tidy":                     func() []int { return lits.Tidy(a) },
		"Without":                  func() []int { return lits.Without(a, 3) },
		"Without what isn't there": func() []int { return lits.Without(a, 50) },
		"Join":                     func() []int { return lits.Join(a, b) },
		"Join nothing":             func() []int { return lits.Join(a, nil) },
		"Join to nothing":          func() []int { return lits.Join(nil, b) },
		"Resolve": func() []int {
			r, _ := lits.Resolve(a, b, 1)
			return r
		},
		"Resolvents": func() []int {
			var out []int
			for _, r := range lits.Resolvents(a, b) {
				out = append(out, r...)
			}
			return out
		},
	}
}

// pairs: lists that are tidy and that aren't, on which all calls have something to do.
func pairs() [][2][]int {
	return [][2][]int{
		{{3, 1, -2, 3}, {-1, 2, 4, 2}},
		{{1, -2, 3}, {-1, 2, 4}},
		{{1}, {-1}},
		{{5, 0, 1}, {-1, 0}},
		{{}, {}},
	}
}

// Memory: what comes in is read, no more, nor are the places behind it written.
func TestArgumentsStay(t *testing.T) {
	for _, p := range pairs() {
		a, b := behind(p[0]), behind(p[1])
		wantA, wantB := slices.Clone(whole(a)), slices.Clone(whole(b))
		for what, call := range calls(a, b) {
			call()
			if !slices.Equal(whole(a), wantA) || !slices.Equal(whole(b), wantB) {
				t.Fatalf("%s has written into %v or %v", what, a, b)
			}
		}
		lits.Sound(a)
		lits.Has(a, 1)
		lits.Taut(a)
		lits.Same(a, b)
		lits.Subsumes(a, b)
		if !slices.Equal(whole(a), wantA) || !slices.Equal(whole(b), wantB) {
			t.Fatalf("a call that asks has written into %v or %v", a, b)
		}
	}
}

// Memory: an answer is the caller's, with the room behind its end; Sameness: the next call answers the same.
func TestAnswersAreTheCallers(t *testing.T) {
	for _, p := range pairs() {
		a, b := behind(p[0]), behind(p[1])
		wantA, wantB := slices.Clone(whole(a)), slices.Clone(whole(b))
		for what, call := range calls(a, b) {
			first, second := call(), call()
			want := slices.Clone(first)
			same(t, what+" again", second, want)
			spoil(first)
			same(t, what+", another answer spoilt", second, want)
			same(t, what+" once more", call(), want)
			if !slices.Equal(whole(a), wantA) || !slices.Equal(whole(b), wantB) {
				t.Fatalf("an answer of %s shares the memory of %v or %v", what, a, b)
			}
		}
	}
}

// Memory: nobody remembers a list when the call has answered.
func TestArgumentsAreForgotten(t *testing.T) {
	for _, p := range pairs() {
		a, b := behind(p[0]), behind(p[1])
		all := calls(a, b)
		got, want := map[string][]int{}, map[string][]int{}
		for what, call := range all {
			got[what] = call()
			want[what] = slices.Clone(got[what])
		}
		spoil(a)
		spoil(b)
		for what := range all {
			same(t, what+", its arguments spoilt", got[what], want[what])
		}
	}
}

// Sameness: many goroutines that call at the same time hear the same, and share nothing.
func TestSameBesideOneAnother(t *testing.T) {
	a, b := []int{3, 1, -2, 3}, []int{-1, 2, 4, 2}
	all := calls(a, b)
	seq := lits.Resolvents(a, b)
	want := map[string][]int{}
	for what, call := range all {
		want[what] = call()
	}
	var group sync.WaitGroup
	for range 8 {
		group.Go(func() {
			for what, call := range all {
				got := call()
				same(t, what, got, want[what])
				spoil(got)
			}
			var joined []int
			for _, r := range seq {
				joined = append(joined, r...)
				spoil(r)
			}
			same(t, "one sequence", joined, want["Resolvents"])
		})
	}
	group.Wait()
}
