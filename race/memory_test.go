package race_test

import (
	"runtime"
	"slices"
	"sync"
	"testing"
	"testing/synctest"

	"depot/api"
	"depot/race"
	"depot/solve"
)

// behind: the list at the head of a longer memory, so that what is written behind its end can be seen.
func behind[E any](list []E, further ...E) []E {
	return append(slices.Clone(list), further...)[:len(list)]
}

// whole: the list with all the room behind its end.
func whole[E any](list []E) []E { return list[:cap(list)] }

// question is all that can be handed in.
type question struct {
	f       api.Formula
	l       []api.Config
	workers int
}

// roomy: the question in memory of its own, with something behind each end.
func roomy(q question) question {
	out := question{form(q.f.Vars), behind(q.l, slow(3), quick(-7), api.Config{}), q.workers}
	for _, d := range q.f.Clauses {
		out.f.Clauses = append(out.f.Clauses, behind(d, 77, -78, 79, -80))
	}
	out.f.Clauses = behind(out.f.Clauses, c(1), c(-1, 2), nil)
	return out
}

// shown: all that can be seen of a question, the places behind its ends too, copied.
func shown(q question) ([][]int, []api.Config) {
	var out [][]int
	for _, d := range whole(q.f.Clauses) {
		out = append(out, slices.Clone(whole(d)))
	}
	return out, slices.Clone(whole(q.l))
}

// stays: the question is as it was.
func stays(t *testing.T, q question, clauses [][]int, configs []api.Config) {
	t.Helper()
	if d, l := shown(q); !slices.EqualFunc(d, clauses, slices.Equal[[]int]) || !slices.Equal(l, configs) {
		t.Fatalf("what came in is written into: %v, %v; it was %v, %v", d, l, clauses, configs)
	}
}

// spoil writes all over a list and the room behind its end, and lets it grow.
func spoil[E any](list []E, with E) {
	for k := range whole(list) {
		whole(list)[k] = with
	}
	for range 20 {
		list = append(list, with)
	}
}

// spoilQuestion does so with all lists of a question.
func spoilQuestion(q question) {
	for _, d := range q.f.Clauses {
		spoil(d, 1)
	}
	spoil(q.f.Clauses, c(-1))
	spoil(q.l, api.Config{})
}

// spoilOutcome does so with all lists of an outcome.
func spoilOutcome(o api.Outcome) {
	for _, s := range o.Proof {
		spoil(s.Lits, 99)
	}
	spoil(o.Proof, api.Step{Drop: true, Lits: c(99)})
	spoil(o.Model, true)
	spoil(o.Model, false)
}

// answer is what Race answers.
type answer struct {
	who int
	o   api.Outcome
	e   api.Errno
}

func asked(q question) answer {
	who, o, e := race.Race(q.f, q.l, q.workers)
	return answer{who, o, e}
}

// copied: the answer in memory of its own.
func copied(a answer) answer {
	a.o.Model, a.o.Proof = slices.Clone(a.o.Model), slices.Clone(a.o.Proof)
	for k := range a.o.Proof {
		a.o.Proof[k].Lits = slices.Clone(a.o.Proof[k].Lits)
	}
	return a
}

func sameAnswer(a, b answer) bool { return a.who == b.who && a.e == b.e && same(a.o, b.o) }

// sample: a question; formulas with models and without, searches with a bound and without.
func sample(seed uint64) question {
	draw := drawn(seed)
	f := draw.hard(4 + draw.Intn(20))
	return question{f, draw.configs(f, 7), 1 + draw.Intn(8)}
}

// Memory: what comes in is read, no more, nor are the places behind it written.
func TestQuestionStays(t *testing.T) {
	for seed := range uint64(200) {
		q := roomy(sample(seed + 100))
		clauses, configs := shown(q)
		asked(q)
		asked(question{q.f, q.l, 0})
		asked(question{q.f, nil, 1})
		stays(t, q, clauses, configs)
	}
}

// Memory: what goes out shares nothing with what came in, whichever of them is written into.
func TestNothingIsShared(t *testing.T) {
	for seed := range uint64(200) {
		q := sample(seed + 700)
		mine := roomy(q)
		got := asked(mine)
		want := copied(got)
		spoilQuestion(mine)
		if !sameAnswer(got, want) {
			t.Fatalf("the answer to %v changes with the question", q)
		}
		mine = roomy(q)
		clauses, configs := shown(mine)
		spoilOutcome(asked(mine).o)
		stays(t, mine, clauses, configs)
	}
}

// Memory: nobody remembers what came in or went out: written over, it changes no later answer, nor the other lists of its own.
func TestNothingIsRemembered(t *testing.T) {
	for seed := range uint64(100) {
		q := sample(seed + 1300)
		want := copied(asked(roomy(q)))
		other := asked(roomy(q))
		for range 2 {
			mine := roomy(q)
			got := asked(mine)
			if !sameAnswer(got, want) {
				t.Fatalf("%v is answered otherwise", q)
			}
			for k := range got.o.Proof {
				spoil(got.o.Proof[k].Lits, 99)
				got.o.Proof[k].Lits = slices.Clone(want.o.Proof[k].Lits)
				if !sameAnswer(got, want) {
					t.Fatalf("step %d of a proof shares with others", k)
				}
			}
			spoilOutcome(got.o)
			spoilQuestion(mine)
		}
		if !sameAnswer(other, want) {
			t.Fatal("two answers share")
		}
	}
}

// Memory: the configs that are spread are the caller's, with the room behind their end.
func TestSpreadIsTheCallers(t *testing.T) {
	for _, n := range []int{1, 2, 63, 64} {
		l, _ := race.Spread(slow(4), n)
		other, _ := race.Spread(slow(4), n)
		want := slices.Clone(l)
		spoil(l, api.Config{})
		again, _ := race.Spread(slow(4), n)
		if !slices.Equal(other, want) || !slices.Equal(again, want) {
			t.Errorf("Spread of %d changes with what was written", n)
		}
	}
}

// Memory: a list without elements may be nil or not.
func TestNilAndEmpty(t *testing.T) {
	l := []api.Config{slow(0), quick(-1)}
	for _, vars := range []int{0, 3} {
		for _, two := range [][2]api.Formula{{{Vars: vars}, {Vars: vars, Clauses: [][]int{}}}, {form(vars, nil), form(vars, []int{})}} {
			a, b := asked(question{two[0], l, 2}), asked(question{two[1], l, 2})
			if a.e != api.OK || !sameAnswer(a, b) {
				t.Errorf("%v, %v", a, b)
			}
		}
	}
}

// Sameness: the same call answers the same, whatever was called between, in other memory, and with another number of workers.
func TestSameAgain(t *testing.T) {
	var all []answer
	for round := range 4 {
		for k := range uint64(100) {
			q := sample(k + 2500)
			if round == 1 {
				q = roomy(q)
			}
			q.workers += round * 17
			a := asked(q)
			if round == 0 {
				all = append(all, a)
			} else if !sameAnswer(a, all[k]) {
				t.Fatalf("%v is answered otherwise", q)
			}
		}
	}
	for n := 1; n <= api.MaxCrew; n++ {
		l, _ := race.Spread(solve.Usual(), n)
		again, _ := race.Spread(solve.Usual(), n)
		if !slices.Equal(l, again) {
			t.Errorf("Spread of %d answers otherwise", n)
		}
	}
}

// Sameness: so it does beside others, on one processor or many.
func TestSameBesideOneAnother(t *testing.T) {
	var all []answer
	for k := range uint64(16) {
		all = append(all, asked(sample(k+3500)))
	}
	for _, processors := range []int{1, 2, runtime.NumCPU()} {
		was := runtime.GOMAXPROCS(processors)
		var group sync.WaitGroup
		for k := range uint64(16) {
			group.Go(func() {
				q := sample(k + 3500)
				for _, q.workers = range []int{1, 2, 64} {
					if !sameAnswer(asked(q), all[k]) {
						t.Errorf("%v is answered otherwise", q)
					}
				}
			})
		}
		group.Wait()
		runtime.GOMAXPROCS(was)
	}
}

// Sameness: one question at a time in several hands.
func TestOneQuestionInManyHands(t *testing.T) {
	q := roomy(question{pigeons(4), []api.Config{slow(3), quick(5), slow(1000), quick(-1)}, 4})
	want := asked(q)
	var group sync.WaitGroup
	for range 8 {
		group.Go(func() {
			if !sameAnswer(asked(q), want) {
				t.Error("it is answered otherwise")
			}
		})
	}
	group.Wait()
}

// P19.2, Sameness: no call leaves a goroutine behind, whoever answers. A bubble waits for all that were begun in it, and panics, if one is left that nobody can wake; a count of goroutines wouldn't do, since one that has ended is still counted until its thread has had its turn.
func TestNobodyIsLeft(t *testing.T) {
	synctest.Test(t, func(t *testing.T) {
		for seed := range uint64(100) {
			q := sample(seed + 4500)
			for _, q.workers = range []int{1, 8, 64, 0} {
				asked(q)
			}
			asked(question{wayOut(5), []api.Config{quick(0), slow(-1), slow(100)}, 3})
		}
	})
}
