package forward_test

import (
	"slices"
	"sync"
	"testing"

	"depot/api"
	"depot/forward"
)

// behind: the list at the head of a longer memory, so that what is written behind its end can be seen.
func behind[E any](list []E, further ...E) []E {
	return append(slices.Clone(list), further...)[:len(list)]
}

// whole: the list with all the room behind its end.
func whole[E any](list []E) []E {
	return list[:cap(list)]
}

// roomy: the formula in memory of its own, with something behind each end.
func roomy(f api.Formula) api.Formula {
	out := form(f.Vars)
	for _, d := range f.Clauses {
		out.Clauses = append(out.Clauses, behind(d, 77, -78, 79, -80))
	}
	out.Clauses = behind(out.Clauses, c(1), c(-1, 2), nil)
	return out
}

// roomySteps: likewise, of steps.
func roomySteps(steps []api.Step) []api.Step {
	var out []api.Step
	for _, step := range steps {
		out = append(out, api.Step{Drop: step.Drop, Lits: behind(step.Lits, 77, -78, 79, -80)})
	}
	return behind(out, add(1), drop(2, 3))
}

// seen: all that can be seen of a formula and of steps, the places behind their ends too, copied.
func seen(f api.Formula, steps []api.Step) [][]int {
	var out [][]int
	for _, d := range whole(f.Clauses) {
		out = append(out, slices.Clone(whole(d)))
	}
	for _, step := range whole(steps) {
		lits := slices.Clone(whole(step.Lits))
		if step.Drop {
			lits = append(lits, 0)
		}
		out = append(out, lits)
	}
	return out
}

// spoil writes all over a list and the room behind its end, and lets it grow.
func spoil[E any](list []E, with E) {
	for k := range whole(list) {
		whole(list)[k] = with
	}
	for range 20 {
		list = append(list, with)
	}
}

// spoilAll writes all over a formula and steps.
func spoilAll(f api.Formula, steps []api.Step) {
	for _, d := range f.Clauses {
		spoil(d, 1)
	}
	spoil(f.Clauses, c(-1))
	for _, step := range steps {
		spoil(step.Lits, 1)
	}
	spoil(steps, drop(-1))
}

// given: a drawn formula and steps, some of which are refused.
func given(seed uint64) (api.Formula, []api.Step) {
	draw := drawn(seed + 17000)
	vars := 3 + draw.Intn(8)
	f := draw.formula(vars, 3*vars)
	var steps []api.Step
	if seed%3 == 0 {
		f, steps = draw.drawnProof()
	}
	for range 30 {
		steps = append(steps, draw.step(vars, f.Clauses))
	}
	return f, steps
}

// Memory: what comes in is read, no more, nor are the places behind it written, neither then nor later.
func TestArgumentsStay(t *testing.T) {
	for seed := range uint64(200) {
		f, steps := given(seed)
		f, steps = roomy(f), roomySteps(steps)
		was := seen(f, steps)
		toldBy(f, steps)
		if got := seen(f, steps); !slices.EqualFunc(got, was, slices.Equal[[]int]) {
			t.Fatalf("written into what came in: %v, was %v", got, was)
		}
	}
	for _, f := range misshaped() {
		f, steps := roomy(f), roomySteps([]api.Step{add(2, 1), drop(0, 1)})
		was := seen(f, steps)
		toldBy(f, steps)
		if got := seen(f, steps); !slices.EqualFunc(got, was, slices.Equal[[]int]) {
			t.Fatalf("written into what was refused: %v, was %v", got, was)
		}
	}
}

// Memory: nobody remembers what came in: written over behind each call, it changes nothing.
func TestArgumentsAreForgotten(t *testing.T) {
	for seed := range uint64(200) {
		f, steps := given(seed)
		p := &plain{clauses: slices.Clone(f.Clauses)}
		mine, mySteps := roomy(f), roomySteps(steps)
		w := made(t, mine)
		spoilAll(mine, nil)
		holds(t, w, p)
		for k, step := range mySteps {
			got, e := on(w, step)
			want, wanted := onPlain(p, steps[k])
			spoilAll(form(0), []api.Step{step})
			if got != want || e != wanted {
				t.Fatalf("step %v: %d, error %d, wanted %d, error %d", steps[k], got, e, want, wanted)
			}
			holds(t, w, p)
		}
		mine, mySteps = roomy(f), roomySteps(steps)
		want, _ := forward.Check(mine, mySteps)
		spoilAll(mine, mySteps)
		if got, _ := forward.Check(f, steps); got != want {
			t.Fatalf("Check(%v, %v) = %v, was %v", f, steps, got, want)
		}
	}
}

// Memory: what Clauses and Units answer, written into or let grow, changes nothing else, and nothing that happens later changes it.
func TestAnswersAreTheCallers(t *testing.T) {
	for seed := range uint64(150) {
		f, steps := given(seed)
		w, p := pairOf(t, f)
		var kept, copies [][]int
		for _, step := range steps {
			both(t, w, p, step)
			clauses, again := w.Clauses(), w.Clauses()
			units, _ := w.Units()
			for k := range again {
				kept, copies = append(kept, again[k]), append(copies, slices.Clone(again[k]))
			}
			kept, copies = append(kept, units), append(copies, slices.Clone(units))
			for k := range clauses {
				spoil(append(clauses[k], 555), 999)
				spoil(clauses[k], 888)
			}
			spoil(clauses, c(777))
			other, _ := w.Units()
			spoil(append(other, 555), 999)
			spoil(other, 888)
			holds(t, w, p)
		}
		for k := range kept {
			if !slices.Equal(kept[k], copies[k]) {
				t.Fatalf("an answer is %v, was %v", kept[k], copies[k])
			}
		}
	}
}

// Memory: no two lists of one answer share memory, the room behind their ends included, not even those of a clause that is there twice.
func TestListsOfOneAnswer(t *testing.T) {
	w := made(t, over(c(1, 2), c(2, 1), c(1, 2), c(3), c(), c()))
	for at := range w.Clauses() {
		all := w.Clauses()
		spoil(append(all[at], 555), 999)
		spoil(all[at], 888)
		want := [][]int{c(), c(), c(1, 2), c(1, 2), c(1, 2), c(3)}
		for k := range all {
			if k != at && !slices.Equal(all[k], want[k]) {
				t.Errorf("clause %d is %v, when clause %d is written into", k, all[k], at)
			}
		}
	}
}

// Objects: two Forwards of one formula know nothing of one another.
func TestTwoForwards(t *testing.T) {
	for seed := range uint64(150) {
		f, steps := given(seed)
		_, others := given(seed + 5000)
		a, p := pairOf(t, f)
		b, q := pairOf(t, f)
		for k := range min(len(steps), len(others)) {
			both(t, a, p, steps[k])
			both(t, b, q, others[k])
			holds(t, a, p)
		}
	}
}

// Refusals, Sameness: a call that is refused, and one that asks, changes nothing of what comes behind.
func TestAskingChangesNothing(t *testing.T) {
	for seed := range uint64(150) {
		f, steps := given(seed)
		w, quiet := made(t, f), made(t, f)
		for _, step := range steps {
			for range 2 {
				told(w)
				refuses(t, w, c(1, 0), api.ErrShape)
			}
			got, e := on(w, step)
			if want, wanted := on(quiet, step); got != want || e != wanted {
				t.Fatalf("step %v: %d, error %d; unasked %d, error %d", step, got, e, want, wanted)
			}
		}
		if !slices.Equal(told(w), told(quiet)) {
			t.Fatalf("%v; unasked %v", told(w), told(quiet))
		}
	}
}

// Sameness: the same calls answer the same.
func TestSameAgain(t *testing.T) {
	for seed := range uint64(60) {
		want := toldBy(given(seed))
		for range 3 {
			if !slices.Equal(toldBy(given(seed)), want) {
				t.Fatalf("the calls of %d answered otherwise", seed)
			}
		}
	}
}

// Sameness, Objects: so they do while others work with Forwards of their own, of the same formula too.
func TestSameBesideOneAnother(t *testing.T) {
	f, steps := given(0)
	of := toldBy(f, steps)
	var want [][]int
	for seed := range uint64(4) {
		want = append(want, toldBy(given(seed)))
	}
	var group sync.WaitGroup
	for k := range 8 {
		group.Go(func() {
			for range 5 {
				if seed := k % 4; !slices.Equal(toldBy(given(uint64(seed))), want[seed]) {
					t.Errorf("the calls of %d answered otherwise", seed)
				}
				if !slices.Equal(toldBy(f, steps), of) {
					t.Errorf("the calls of one formula answered otherwise")
				}
			}
		})
	}
	group.Wait()
}
