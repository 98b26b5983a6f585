package drat_test

import (
	"slices"
	"strings"
	"sync"
	"testing"

	"depot/api"
	"depot/drat"
)

// behind: the list at the head of a longer memory, so that what is written behind its end can be seen.
func behind[E any](list []E, further ...E) []E {
	return append(slices.Clone(list), further...)[:len(list)]
}

// whole: the list with all the room behind its end.
func whole[E any](list []E) []E { return list[:cap(list)] }

// roomy: the steps in memory of their own, with something behind each end.
func roomy(l ...api.Step) []api.Step {
	var out []api.Step
	for _, step := range l {
		out = append(out, api.Step{Drop: step.Drop, Lits: behind(step.Lits, 77, -78, 79)})
	}
	return behind(out, add(5), drop())
}

// seen: all that can be seen of steps, the places behind their ends too, copied.
func seen(l []api.Step) []api.Step {
	var out []api.Step
	for _, step := range whole(l) {
		out = append(out, api.Step{Drop: step.Drop, Lits: slices.Clone(whole(step.Lits))})
	}
	return out
}

// spoil writes all over a list and the room behind its end, and lets it grow.
func spoil(l []int) {
	for k := range whole(l) {
		whole(l)[k] = 999
	}
	for range 20 {
		l = append(l, 888)
	}
}

// spoilAll writes all over steps and the room behind all ends.
func spoilAll(l []api.Step) {
	for _, step := range whole(l) {
		spoil(step.Lits)
	}
	for k := range whole(l) {
		whole(l)[k] = drop(777)
	}
}

// P9.5: what is handed in is only read, nor are the places behind it written; of what is refused, too.
func TestArgumentsStay(t *testing.T) {
	for _, l := range [][]api.Step{roomy(), roomy(someSteps()...), roomy(add(), drop()), roomy(add(1, -2), add(3, 0)), roomy(drop(api.MaxVar+1), add(1))} {
		was := seen(l)
		drat.Write(l)
		if !equal(seen(l), was) {
			t.Errorf("Write has written into what came in: %v, was %v", seen(l), was)
		}
	}
}

// P9.5: nobody remembers what came in: written over, it changes neither the answer nor a later one.
func TestArgumentsAreForgotten(t *testing.T) {
	l := roomy(someSteps()...)
	s, e := drat.Write(l)
	want := strings.Clone(s)
	spoilAll(l)
	if s != want || e != api.OK {
		t.Errorf("Write, what came in spoilt: %q, was %q", s, want)
	}
	writes(t, want, someSteps()...)
}

// P9.5: what Read answers is the caller's, with the room behind its ends; the next call answers the same.
func TestAnswersAreTheCallers(t *testing.T) {
	first, _, _ := drat.Read(some)
	second, _, _ := drat.Read(some)
	spoilAll(first)
	if !equal(second, someSteps()) {
		t.Errorf("Read, another answer spoilt: %v", second)
	}
	reads(t, some, someSteps()...)
}

// P9.5: no two lists of one answer share anything, nor the room behind their ends.
func TestStepsAreApart(t *testing.T) {
	text := strings.Repeat("7 ", 100) + "0 d 0 1 2 0 0 d 3 0 4 5 0 4 5 0 " + strings.Repeat("-8 ", 9) + "0"
	want := []api.Step{add(slices.Repeat([]int{7}, 100)...), drop(), add(1, 2), add(), drop(3), add(4, 5), add(4, 5), add(slices.Repeat([]int{-8}, 9)...)}
	for k := range want {
		got, e, _ := drat.Read(text)
		if e != api.OK || !equal(got, want) {
			t.Fatalf("Read = %v, %d", got, e)
		}
		spoil(got[k].Lits)
		got[k] = want[k]
		if !equal(got, want) {
			t.Errorf("the step %d spoilt: %v", k, got)
		}
	}
}

// Sameness: the same calls answer the same, refusals too.
func TestSameAgain(t *testing.T) {
	for range 3 {
		reads(t, some, someSteps()...)
		refuses(t, faulty, 7, someSteps()...)
		reads(t, "d 0", drop())
		refuses(t, "c\nd", 3)
		writes(t, "1 -2 0\nd 3 0\n0\nd 4 4 0\n-5 0\n", someSteps()...)
		if s, e := drat.Write([]api.Step{add(1), add(0)}); s != "" || e != api.ErrShape {
			t.Errorf("Write = %q, %d", s, e)
		}
	}
}

// Sameness: so they do while others call, and rounds of one sequence beside one another share nothing.
func TestSameBesideOneAnother(t *testing.T) {
	seq := drat.Steps(some)
	var group sync.WaitGroup
	for range 8 {
		group.Go(func() {
			for range 50 {
				reads(t, some, someSteps()...)
				refuses(t, faulty, 7, someSteps()...)
				writes(t, "1 -2 0\nd 3 0\n0\nd 4 4 0\n-5 0\n", someSteps()...)
				got := slices.Collect(seq)
				gives(t, "a round beside others", got, someSteps())
				spoilAll(got)
			}
		})
	}
	group.Wait()
}
