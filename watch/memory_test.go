package watch_test

import (
	"slices"
	"sync"
	"testing"

	"depot/api"
	"depot/watch"
)

// behind: the list at the head of a longer memory, so that what is written behind its end can be seen.
func behind[E any](list []E, further ...E) []E {
	return append(slices.Clone(list), further...)[:len(list)]
}

// whole: the list with all the room behind its end.
func whole[E any](list []E) []E {
	return list[:cap(list)]
}

// roomy: the formula in memory of its own, with something behind each end.
func roomy(f api.Formula) api.Formula {
	out := form(f.Vars)
	for _, d := range f.Clauses {
		out.Clauses = append(out.Clauses, behind(d, 77, -78, 79, -80))
	}
	out.Clauses = behind(out.Clauses, c(1), c(-1, 2), nil)
	return out
}

// seen: all that can be seen of a formula, the places behind its ends too, copied.
func seen(f api.Formula) [][]int {
	var out [][]int
	for _, d := range whole(f.Clauses) {
		out = append(out, slices.Clone(whole(d)))
	}
	return out
}

// spoil writes all over a list and the room behind its end, and lets it grow.
func spoil[E any](list []E, with E) {
	for k := range whole(list) {
		whole(list)[k] = with
	}
	for range 20 {
		list = append(list, with)
	}
}

// Memory: what New and Add are given is read, no more, nor are the places behind it written, neither then nor later.
func TestArgumentsStay(t *testing.T) {
	for seed := range uint64(200) {
		draw := drawn(seed)
		vars := 3 + draw.Intn(8)
		f := roomy(draw.formula(vars, 2*vars))
		was := seen(f)
		w := made(t, f)
		var lists, copies [][]int
		for range 60 {
			a := draw.call(vars)
			if a.kind == add {
				a.list = behind(a.list, 77, -78, 79, -80)
				lists, copies = append(lists, a.list), append(copies, slices.Clone(whole(a.list)))
			}
			a.on(w)
		}
		if !slices.EqualFunc(seen(f), was, slices.Equal[[]int]) {
			t.Fatalf("New's formula is written into: %v, was %v", seen(f), was)
		}
		for k, list := range lists {
			if !slices.Equal(whole(list), copies[k]) {
				t.Fatalf("Add's clause is written into: %v, was %v", whole(list), copies[k])
			}
		}
	}
}

// Memory: nobody remembers what came in: written over behind the call, it changes nothing.
func TestArgumentsAreForgotten(t *testing.T) {
	for seed := range uint64(300) {
		draw := drawn(seed + 700)
		vars := 3 + draw.Intn(8)
		f := draw.formula(vars, 2*vars)
		p := &plain{f: roomy(f)}
		mine := roomy(f)
		w := made(t, mine)
		for _, d := range mine.Clauses {
			spoil(d, 1)
		}
		spoil(mine.Clauses, c(-1))
		for range 60 {
			a := draw.call(vars)
			want := a.onPlain(p)
			a.list = behind(a.list, 77, -78, 79)
			if got := a.on(w); got != want {
				t.Fatalf("%v answers %d, wanted %d", a, got, want)
			}
			spoil(a.list, 1)
			holds(t, w, p)
		}
	}
}

// Memory: what Lits answers, written into or let grow, changes nothing else, and nothing that happens later changes it.
func TestLitsAreTheCallers(t *testing.T) {
	for seed := range uint64(200) {
		draw := drawn(seed + 900)
		vars := 3 + draw.Intn(8)
		w, p := pairOf(t, draw.formula(vars, vars))
		var kept, copies [][]int
		for range 40 {
			draw.call(vars).both(t, w, p)
			one, two := w.Lits(), w.Lits()
			want := slices.Clone(two)
			grown := append(one, 555)
			spoil(grown, 999)
			spoil(one, 888)
			if !slices.Equal(two, want) {
				t.Fatalf("another answer is spoilt: %v, was %v", two, want)
			}
			holds(t, w, p)
			kept, copies = append(kept, append(two, 100)), append(copies, append(want, 100))
		}
		for k := range kept {
			if !slices.Equal(kept[k], copies[k]) {
				t.Fatalf("an answer is %v, was %v", kept[k], copies[k])
			}
		}
	}
}

// Objects: two Watches of one formula know nothing of one another.
func TestTwoWatches(t *testing.T) {
	for seed := range uint64(200) {
		draw := drawn(seed + 1100)
		vars := 3 + draw.Intn(8)
		f := draw.formula(vars, vars)
		a, p := pairOf(t, f)
		b, q := pairOf(t, f)
		for range 60 {
			draw.call(vars).both(t, a, p)
			draw.call(vars).both(t, b, q)
			holds(t, a, p)
		}
	}
}

// Sameness: to ask changes nothing.
func TestAskingChangesNothing(t *testing.T) {
	w, p := pairOf(t, form(4, c(-1, 2), c(-2, 3, 4)))
	for _, a := range []call{{run, nil}, {assume, c(1)}, {run, nil}, {assume, c(-4)}, {undo, nil}, {run, nil}, {assume, c(-3)}, {run, nil}, {add, c(-4)}, {run, nil}} {
		a.both(t, w, p)
		for range 3 {
			holds(t, w, p)
		}
	}
}

// told: all that a Watch answers along a drawn row of calls, as numbers.
func told(seed uint64) []int {
	draw := drawn(seed + 1300)
	vars := 4 + draw.Intn(8)
	w, e := watch.New(draw.formula(vars, vars))
	out := []int{int(e)}
	for range 150 {
		out = append(out, draw.call(vars).on(w), w.Depth())
		out = append(out, w.Lits()...)
		if w.Clashes() {
			out = append(out, 1000)
		}
	}
	return out
}

// Sameness: the same calls answer the same.
func TestSameAgain(t *testing.T) {
	for seed := range uint64(30) {
		want := told(seed)
		for range 3 {
			if !slices.Equal(told(seed), want) {
				t.Fatalf("the calls of %d answered otherwise", seed)
			}
		}
	}
}

// Sameness, Objects: so they do while others work with Watches of their own.
func TestSameBesideOneAnother(t *testing.T) {
	want := [][]int{told(0), told(1), told(2), told(3)}
	var group sync.WaitGroup
	for k := range 16 {
		group.Go(func() {
			for range 5 {
				if seed := k % 4; !slices.Equal(told(uint64(seed)), want[seed]) {
					t.Errorf("the calls of %d answered otherwise", seed)
				}
			}
		})
	}
	group.Wait()
}
