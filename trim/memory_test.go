package trim_test

import (
	"slices"
	"sync"
	"testing"

	"depot/api"
	"depot/trim"
)

// behind: the list at the head of a longer memory, so that what is written behind its end can be seen.
func behind[E any](list []E, further ...E) []E {
	return append(slices.Clone(list), further...)[:len(list)]
}

// whole: the list with all the room behind its end.
func whole[E any](list []E) []E {
	return list[:cap(list)]
}

// roomy: the formula in memory of its own, with something behind each end.
func roomy(f api.Formula) api.Formula {
	out := form(f.Vars)
	for _, d := range f.Clauses {
		out.Clauses = append(out.Clauses, behind(d, 77, -78, 79, -80))
	}
	out.Clauses = behind(out.Clauses, c(1), c(-1, 2), nil)
	return out
}

// roomySteps: likewise, of steps.
func roomySteps(steps []api.Step) []api.Step {
	var out []api.Step
	for _, step := range steps {
		out = append(out, api.Step{Drop: step.Drop, Lits: behind(step.Lits, 77, -78, 79, -80)})
	}
	return behind(out, add(1), drop(2, 3))
}

// seen: all that can be seen of a formula, of steps and of numbers, the places behind their ends too, copied.
func seen(f api.Formula, steps []api.Step, core []int) [][]int {
	out := [][]int{slices.Clone(whole(core))}
	for _, d := range whole(f.Clauses) {
		out = append(out, slices.Clone(whole(d)))
	}
	for _, step := range whole(steps) {
		lits := slices.Clone(whole(step.Lits))
		if step.Drop {
			lits = append(lits, 0)
		}
		out = append(out, lits)
	}
	return out
}

// spoil writes all over a list and the room behind its end, and lets it grow.
func spoil[E any](list []E, with E) {
	grown := append(list, with)
	for k := range whole(list) {
		whole(list)[k] = with
	}
	for k := range whole(grown) {
		whole(grown)[k] = with
	}
	for range 20 {
		list = append(list, with)
	}
}

// spoilAll writes all over a formula, steps and numbers.
func spoilAll(f api.Formula, steps []api.Step, core []int) {
	for _, d := range f.Clauses {
		spoil(d, 999)
	}
	spoil(f.Clauses, c(-999))
	for _, step := range steps {
		spoil(step.Lits, 999)
	}
	spoil(steps, drop(-999))
	spoil(core, 999)
}

// answer is all that the calls answer of a formula and steps.
type answer struct {
	core  []int
	proof []api.Step
	only  api.Formula
	codes []int
}

// asked: what the calls answer of a formula and steps; of Only the core is handed in, too.
func asked(f api.Formula, steps []api.Step, core []int) answer {
	var a answer
	var e, eOnly api.Errno
	a.core, a.proof, e = trim.Trim(f, steps)
	a.only, eOnly = trim.Only(f, core)
	a.codes = []int{int(e), int(eOnly)}
	if trim.Within(a.proof, steps) {
		a.codes = append(a.codes, 1)
	}
	if trim.Within(steps, a.proof) {
		a.codes = append(a.codes, 2)
	}
	return a
}

// told: an answer as lists of numbers, copied.
func (a answer) told() [][]int {
	out := [][]int{slices.Clone(a.codes), {a.only.Vars}, slices.Clone(a.core)}
	for _, step := range a.proof {
		lits := slices.Clone(step.Lits)
		if step.Drop {
			lits = append(lits, 0)
		}
		out = append(out, lits)
	}
	for _, d := range a.only.Clauses {
		out = append(out, slices.Clone(d))
	}
	return out
}

// same: are the lists the same?
func same(a, b [][]int) bool {
	return slices.EqualFunc(a, b, slices.Equal[[]int])
}

// given: a drawn formula, steps and numbers of clauses, some of which are refused.
func given(seed uint64) (api.Formula, []api.Step, []int) {
	draw := drawn(seed + 17000)
	f, steps := draw.richProof()
	if seed%4 == 0 {
		steps = draw.spoilt(f, steps)
	}
	var core []int
	for number := range f.Clauses {
		if draw.Intn(2) == 0 {
			core = append(core, number)
		}
	}
	if seed%5 == 0 {
		core = shuffled(draw, core)
	}
	return f, steps, core
}

// P12.5, Memory: what comes in is read, no more, nor are the places behind it written.
func TestArgumentsStay(t *testing.T) {
	try := func(f api.Formula, steps []api.Step, core []int) {
		f, steps, core = roomy(f), roomySteps(steps), behind(core, 77, 78)
		was := seen(f, steps, core)
		asked(f, steps, core)
		if got := seen(f, steps, core); !same(got, was) {
			t.Fatalf("written into what came in: %v, was %v", got, was)
		}
	}
	for seed := range uint64(200) {
		try(given(seed))
	}
	for _, f := range misshaped() {
		try(f, row(add(2, 1), drop(0, 1), add()), c(0))
	}
}

// P12.5, Memory: nobody remembers what came in, nor does an answer share its memory: written over behind the calls, it changes neither the answers nor later ones.
func TestArgumentsAreForgotten(t *testing.T) {
	for seed := range uint64(200) {
		f, steps, core := given(seed)
		mine, mySteps, myCore := roomy(f), roomySteps(steps), behind(core, 77, 78)
		a := asked(mine, mySteps, myCore)
		want := a.told()
		spoilAll(mine, mySteps, myCore)
		if got := a.told(); !same(got, want) {
			t.Fatalf("an answer changes with what came in: %v, was %v", got, want)
		}
		if got := asked(f, steps, core).told(); !same(got, want) {
			t.Fatalf("the calls answer %v, before %v", got, want)
		}
	}
}

// P12.5, Memory: what is answered, written into or let grow, changes no other answer, and nothing that came in.
func TestAnswersAreTheCallers(t *testing.T) {
	for seed := range uint64(200) {
		f, steps, core := given(seed)
		f, steps, core = roomy(f), roomySteps(steps), behind(core, 77, 78)
		was := seen(f, steps, core)
		a, b := asked(f, steps, core), asked(f, steps, core)
		want := b.told()
		spoilAll(a.only, a.proof, a.core)
		if got := b.told(); !same(got, want) {
			t.Fatalf("another answer is spoilt: %v, was %v", got, want)
		}
		if got := seen(f, steps, core); !same(got, was) {
			t.Fatalf("an answer shares the memory of what came in: %v, was %v", got, was)
		}
		if got := asked(f, steps, core).told(); !same(got, want) {
			t.Fatalf("the calls answer %v, before %v", got, want)
		}
	}
}

// P12.5, Memory: no two lists of one answer share memory, the room behind their ends included, not even where what came in does.
func TestListsOfOneAnswer(t *testing.T) {
	memory := c(1, 2, 3, 4, 5, 6)
	f := form(6, memory[:2], memory[:3], memory[1:4], memory[:2])
	for at := range f.Clauses {
		g, _ := trim.Only(f, c(0, 1, 2, 3))
		spoil(g.Clauses[at], 999)
		for k, d := range g.Clauses {
			if k != at && !slices.Equal(d, f.Clauses[k]) {
				t.Errorf("clause %d is %v, when clause %d is written into", k, d, at)
			}
		}
	}
	f = over(c(1, 2, 3), c(1, 2, -3), c(1, -2, 3), c(1, -2, -3), c(-1, 4, 5), c(-1, 4, -5), c(-1, -4, 5), c(-1, -4, -5))
	memory = c(1, 2, 1)
	steps := row(api.Step{Lits: memory[:2]}, api.Step{Lits: memory[2:]}, add(-1, 4), api.Step{Lits: memory[:0]})
	_, want, _ := trim.Trim(f, steps)
	if len(want) != 4 {
		t.Fatalf("Trim(%v, %v) = %v", f, steps, want)
	}
	for at := range want {
		core, proof, _ := trim.Trim(f, steps)
		spoil(proof[at].Lits, 999)
		for k := range proof {
			if k != at && !slices.Equal(proof[k].Lits, want[k].Lits) {
				t.Errorf("step %d is %v, when step %d is written into", k, proof[k], at)
			}
		}
		if len(core) != 8 || !rises(core, 8) || !slices.Equal(memory, c(1, 2, 1)) {
			t.Errorf("core %v, memory %v", core, memory)
		}
	}
}

// Sameness: the same calls answer the same.
func TestSameAgain(t *testing.T) {
	for seed := range uint64(60) {
		want := asked(given(seed)).told()
		for range 3 {
			if !same(asked(given(seed)).told(), want) {
				t.Fatalf("the calls of %d answered otherwise", seed)
			}
		}
	}
}

// Sameness: so they do while others call, of the same formula and steps too.
func TestSameBesideOneAnother(t *testing.T) {
	f, steps, core := given(1)
	of := asked(f, steps, core).told()
	var want [][][]int
	for seed := range uint64(4) {
		want = append(want, asked(given(seed)).told())
	}
	var group sync.WaitGroup
	for k := range 8 {
		group.Go(func() {
			for range 5 {
				if seed := k % 4; !same(asked(given(uint64(seed))).told(), want[seed]) {
					t.Errorf("the calls of %d answered otherwise", seed)
				}
				if !same(asked(f, steps, core).told(), of) {
					t.Errorf("the calls of one formula answered otherwise")
				}
			}
		})
	}
	group.Wait()
}
