package under_test

import (
	"runtime"
	"slices"
	"sync"
	"testing"
	"testing/synctest"

	"depot/api"
	"depot/under"
)

// behind: the list at the head of a longer memory, so that what is written behind its end can be seen.
func behind[E any](list []E, further ...E) []E {
	return append(slices.Clone(list), further...)[:len(list)]
}

// whole: the list with all the room behind its end.
func whole[E any](list []E) []E { return list[:cap(list)] }

// question is all that can be handed in.
type question struct {
	f      api.Formula
	assume []int
	proof  []api.Step
}

// roomy: the question in memory of its own, with something behind each end.
func roomy(q question) question {
	out := question{form(q.f.Vars), behind(q.assume, 77, -78, 79), nil}
	for _, d := range q.f.Clauses {
		out.f.Clauses = append(out.f.Clauses, behind(d, 77, -78, 79, -80))
	}
	out.f.Clauses = behind(out.f.Clauses, c(1), c(-1, 2), nil)
	for _, s := range q.proof {
		out.proof = append(out.proof, api.Step{Drop: s.Drop, Lits: behind(s.Lits, 77, -78, 79, -80)})
	}
	out.proof = behind(out.proof, add(1), drop(2))
	return out
}

// shown: all that can be seen of a question, the places behind its ends too, copied.
func shown(q question) [][]int {
	out := [][]int{slices.Clone(whole(q.assume))}
	for _, d := range whole(q.f.Clauses) {
		out = append(out, slices.Clone(whole(d)))
	}
	for _, s := range whole(q.proof) {
		n := 0
		if s.Drop {
			n = 1
		}
		out = append(out, append(c(n), whole(s.Lits)...))
	}
	return out
}

func sameShown(a, b [][]int) bool { return slices.EqualFunc(a, b, slices.Equal[[]int]) }

// spoil writes all over a list and the room behind its end, and lets it grow.
func spoil[E any](list []E, with E) {
	for k := range whole(list) {
		whole(list)[k] = with
	}
	for range 20 {
		list = append(list, with)
	}
}

// spoilQuestion does so with all lists of a question.
func spoilQuestion(q question) {
	for _, d := range q.f.Clauses {
		spoil(d, 1)
	}
	for _, s := range q.proof {
		spoil(s.Lits, 1)
	}
	spoil(q.f.Clauses, c(-1))
	spoil(q.assume, -1)
	spoil(q.proof, drop(1))
}

// answer is what Solve or Least answers.
type answer struct {
	o      api.Outcome
	failed []int
	e      api.Errno
}

// asked: what both calls answer.
func asked(q question, config api.Config) [2]answer {
	var out [2]answer
	for k, call := range []func(api.Formula, []int, api.Config) (api.Outcome, []int, api.Errno){under.Solve, under.Least} {
		o, failed, e := call(q.f, q.assume, config)
		out[k] = answer{o, failed, e}
	}
	return out
}

// copied: the answers in memory of their own.
func copied(a [2]answer) [2]answer {
	for k := range a {
		o := &a[k].o
		o.Model, o.Proof, a[k].failed = slices.Clone(o.Model), slices.Clone(o.Proof), slices.Clone(a[k].failed)
		for i := range o.Proof {
			o.Proof[i].Lits = slices.Clone(o.Proof[i].Lits)
		}
	}
	return a
}

func sameAnswers(a, b [2]answer) bool {
	for k := range a {
		if !same(a[k].o, b[k].o) || !slices.Equal(a[k].failed, b[k].failed) || a[k].e != b[k].e {
			return false
		}
	}
	return true
}

// sample: a question and a config: formulas with models and without, literals that fail and that don't, opposites, none.
func sample(seed uint64) (question, api.Config) {
	draw := drawn(seed)
	f := draw.hard(4 + draw.Intn(20))
	if seed%2 == 0 {
		f = draw.loose(3 + draw.Intn(12))
	}
	q := question{f: f, assume: draw.literals(f.Vars, 6)}
	switch seed % 8 {
	case 3:
		q.f, q.assume = ifAll(pigeons(3), 3)
	case 5:
		q.assume = nil
	case 7:
		q.assume = c(1, 2, -1)
	}
	o, _, _ := under.Solve(q.f, q.assume, draw.config())
	q.proof = o.Proof
	return q, draw.config()
}

// P18.5, Memory: what comes in is read, no more, nor are the places behind it written.
func TestQuestionStays(t *testing.T) {
	for seed := range uint64(300) {
		q, config := sample(seed + 100)
		q = roomy(q)
		was := shown(q)
		for _, config.Budget = range []int{-1, 0, 4} {
			asked(q, config)
		}
		asked(q, api.Config{})
		under.Holds(q.f, q.assume, q.proof)
		if !sameShown(shown(q), was) {
			t.Fatalf("what came in is written into: %v, was %v", shown(q), was)
		}
	}
}

// P18.5, Memory: what goes out shares nothing with what came in, whichever of them is written into.
func TestNothingIsShared(t *testing.T) {
	for seed := range uint64(300) {
		q, config := sample(seed + 700)
		mine := roomy(q)
		was := shown(mine)
		got := asked(mine, config)
		want := copied(got)
		spoilQuestion(mine)
		if !sameAnswers(got, want) {
			t.Fatalf("the answer to %v, %v changes with the question", q.f, q.assume)
		}
		mine = roomy(q)
		for _, a := range asked(mine, config) {
			for _, s := range a.o.Proof {
				spoil(s.Lits, 99)
			}
			spoil(a.o.Proof, drop(99))
			spoil(a.o.Model, true)
			spoil(a.failed, 99)
		}
		if !sameShown(shown(mine), was) {
			t.Fatalf("the question %v, %v changes with an answer", q.f, q.assume)
		}
		if !sameAnswers(asked(mine, config), want) {
			t.Fatalf("the next answer to %v, %v changes with one ahead", q.f, q.assume)
		}
	}
}

// P18.5, Memory: no two lists of one answer share anything, nor those of two answers.
func TestListsAreApart(t *testing.T) {
	for seed := range uint64(200) {
		q, config := sample(seed + 1500)
		first, second := asked(q, config), asked(q, config)
		keep := copied(second)
		for k := range first {
			a := first[k]
			lists := [][]int{a.failed}
			for _, s := range a.o.Proof {
				lists = append(lists, s.Lits)
			}
			// Each is written into with its own number, the room behind it too: none of them shows another's.
			for i, list := range lists {
				spoil(list, i+1000)
			}
			for i, list := range lists {
				for _, n := range whole(list) {
					if n != i+1000 {
						t.Fatalf("two lists of the answer to %v, %v share memory", q.f, q.assume)
					}
				}
			}
			spoil(a.o.Model, true)
			spoil(a.o.Proof, drop(5))
		}
		if !sameAnswers(second, keep) {
			t.Fatalf("the second answer to %v, %v changes with the first", q.f, q.assume)
		}
	}
}

// Memory: a list without elements may be nil or not.
func TestEmptyLists(t *testing.T) {
	_, config := sample(1)
	for vars := range 4 {
		one := asked(question{f: api.Formula{Vars: vars}}, config)
		two := asked(question{f: api.Formula{Vars: vars, Clauses: [][]int{}}, assume: []int{}}, config)
		if !sameAnswers(one, two) || one[0].o.End != api.Sat || one[1].o.End != api.Sat {
			t.Errorf("%v, %v", one, two)
		}
		one = asked(question{f: form(vars, nil)}, config)
		two = asked(question{f: form(vars, []int{}), assume: []int{}}, config)
		if !sameAnswers(one, two) || one[0].o.End != api.Unsat || one[1].o.End != api.Unsat {
			t.Errorf("%v, %v", one, two)
		}
	}
	f := form(1, nil)
	if !under.Holds(f, nil, []api.Step{{Lits: nil}}) || !under.Holds(f, []int{}, []api.Step{{Lits: []int{}}}) || under.Holds(f, nil, []api.Step{}) {
		t.Error("Holds tells nil from empty")
	}
}

// Sameness: the same call answers the same, whatever was called between, and in other memory.
func TestSameAgain(t *testing.T) {
	var answers [][2]answer
	for round := range 3 {
		for k := range uint64(150) {
			q, config := sample(k + 2500)
			if round == 1 {
				q = roomy(q)
			}
			a := asked(q, config)
			if round == 0 {
				answers = append(answers, a)
			} else if !sameAnswers(a, answers[k]) {
				t.Fatalf("%v, %v, %v is answered otherwise", q.f, q.assume, config)
			}
		}
	}
}

// Sameness: so it does beside others, on one processor or many.
func TestSameBesideOneAnother(t *testing.T) {
	var answers [][2]answer
	for k := range uint64(24) {
		q, config := sample(k + 3500)
		answers = append(answers, asked(q, config))
	}
	for _, processors := range []int{1, runtime.NumCPU()} {
		was := runtime.GOMAXPROCS(processors)
		var group sync.WaitGroup
		for k := range uint64(24) {
			group.Go(func() {
				q, config := sample(k + 3500)
				for range 3 {
					if !sameAnswers(asked(q, config), answers[k]) {
						t.Errorf("%v, %v, %v is answered otherwise", q.f, q.assume, config)
					}
				}
			})
		}
		group.Wait()
		runtime.GOMAXPROCS(was)
	}
}

// Sameness: no call leaves a goroutine behind: a bubble waits for all that were begun in it, and panics, if one is left that nobody can wake.
func TestNobodyIsLeft(t *testing.T) {
	synctest.Test(t, func(t *testing.T) {
		for k := range uint64(24) {
			q, config := sample(k + 3500)
			asked(q, config)
		}
	})
}

// Sameness: one question at a time in several hands.
func TestOneQuestionInManyHands(t *testing.T) {
	q, config := sample(3)
	q = roomy(q)
	want := asked(q, config)
	holds := under.Holds(q.f, want[0].failed, q.proof)
	var group sync.WaitGroup
	for range 8 {
		group.Go(func() {
			if !sameAnswers(asked(q, config), want) || under.Holds(q.f, want[0].failed, q.proof) != holds {
				t.Error("it is answered otherwise")
			}
		})
	}
	group.Wait()
}
