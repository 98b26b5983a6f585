package engine_test

import (
	"slices"
	"sync"
	"testing"

	"depot/api"
	"depot/engine"
)

// behind: the list at the head of a longer memory, so that what is written behind its end can be seen.
func behind[E any](list []E, further ...E) []E {
	return append(slices.Clone(list), further...)[:len(list)]
}

// whole: the list with all the room behind its end.
func whole[E any](list []E) []E {
	return list[:cap(list)]
}

// roomy: the formula in memory of its own, with something behind each end.
func roomy(f api.Formula) api.Formula {
	out := form(f.Vars)
	for _, d := range f.Clauses {
		out.Clauses = append(out.Clauses, behind(d, 77, -78, 79, -80))
	}
	out.Clauses = behind(out.Clauses, c(1), c(-1, 2), nil)
	return out
}

// shown: all that can be seen of a formula, the places behind its ends too, copied.
func shown(f api.Formula) [][]int {
	var out [][]int
	for _, d := range whole(f.Clauses) {
		out = append(out, slices.Clone(whole(d)))
	}
	return out
}

// spoil writes all over a list and the room behind its end, and lets it grow.
func spoil[E any](list []E, with E) {
	for k := range whole(list) {
		whole(list)[k] = with
	}
	for range 20 {
		list = append(list, with)
	}
}

// Memory: what New is given is read, no more, nor are the places behind it written, neither then nor later.
func TestFormulaStays(t *testing.T) {
	for seed := range uint64(150) {
		draw := drawn(seed + 100)
		vars := 3 + draw.Intn(8)
		f := roomy(draw.hard(vars))
		was := shown(f)
		g := made(t, f)
		s := &seen{t: t, f: f, g: g, known: true}
		for range 100 {
			draw.apt(s).on(s)
		}
		if !slices.EqualFunc(shown(f), was, slices.Equal[[]int]) {
			t.Fatalf("New's formula is written into: %v, was %v", shown(f), was)
		}
	}
}

// Memory: nobody remembers what came in: written over behind the call, it changes nothing.
func TestFormulaIsForgotten(t *testing.T) {
	for seed := range uint64(150) {
		draw := drawn(seed + 700)
		vars := 3 + draw.Intn(8)
		mine := roomy(draw.hard(vars))
		s := see(t, roomy(mine))
		s.g = made(t, mine)
		for _, d := range mine.Clauses {
			spoil(d, 1)
		}
		spoil(mine.Clauses, c(-1))
		for range 60 {
			draw.apt(s).on(s)
		}
	}
}

// spoilAll writes all over every list that the Engine hands out, Learn's too, and lets them grow.
func spoilAll(g *engine.Engine) {
	entries := g.Entries()
	for _, x := range entries {
		spoil(x.Reason, 99)
	}
	spoil(entries, at(5, 5, 5))
	learnts := g.Learnts()
	for _, d := range learnts {
		spoil(d, 99)
	}
	spoil(learnts, c(99))
	log := g.Log()
	for _, x := range log {
		spoil(x.Lits, 99)
	}
	spoil(log, add(99))
	m, _ := g.Model()
	spoil(m, true)
}

// Memory: what goes out, written into or let grow, changes nothing that the Engine holds.
func TestAnswersAreTheCallers(t *testing.T) {
	for seed := range uint64(250) {
		draw := drawn(seed + 900)
		s := see(t, draw.hard(3+draw.Intn(8)))
		for range 80 {
			a := draw.apt(s)
			if a.kind != teach {
				a.on(s)
			} else {
				clause, _, _ := s.Learn()
				spoil(clause, 99)
			}
			spoilAll(s.g)
			s.holds()
		}
	}
}

// Memory: nor does it change another list of the same answer, or of another one.
func TestAnswersShareNothing(t *testing.T) {
	for seed := range uint64(150) {
		draw := drawn(seed + 1100)
		s := see(t, draw.hard(4+draw.Intn(8)))
		s.known = true
		for range 40 {
			draw.apt(s).on(s)
		}
		s.known = false
		entries, learnts, log := s.g.Entries(), s.g.Learnts(), s.g.Log()
		for k := range entries {
			spoil(entries[k].Reason, 99)
			entries[k].Reason = slices.Clone(s.entries[k].Reason)
			if !slices.EqualFunc(entries, s.entries, sameEntry) {
				t.Fatalf("Entries share: %v, was %v", entries, s.entries)
			}
		}
		for k := range learnts {
			spoil(learnts[k], 99)
			learnts[k] = slices.Clone(s.learnts[k])
			if !slices.EqualFunc(learnts, s.learnts, slices.Equal[[]int]) {
				t.Fatalf("Learnts share: %v, was %v", learnts, s.learnts)
			}
		}
		for k := range log {
			spoil(log[k].Lits, 99)
			log[k].Lits = slices.Clone(s.log[k].Lits)
			if !slices.EqualFunc(log, s.log, sameStep) {
				t.Fatalf("Log shares: %v, was %v", log, s.log)
			}
		}
		s.holds()
	}
}

// Memory: nothing that happens later changes an answer.
func TestAnswersStay(t *testing.T) {
	for seed := range uint64(150) {
		draw := drawn(seed + 1300)
		s := see(t, draw.hard(4+draw.Intn(8)))
		s.known = true
		var checks []func() bool
		for range 60 {
			if a := draw.apt(s); a.kind != teach {
				a.on(s)
			} else {
				clause, _, _ := s.Learn()
				was := slices.Clone(clause)
				checks = append(checks, func() bool { return slices.Equal(clause, was) })
			}
			entries, learnts, log := s.g.Entries(), s.g.Learnts(), s.g.Log()
			wasEntries, wasLearnts, wasLog := told(s.g)
			checks = append(checks, func() bool {
				return slices.EqualFunc(entries, wasEntries, sameEntry) && slices.EqualFunc(learnts, wasLearnts, slices.Equal[[]int]) && slices.EqualFunc(log, wasLog, sameStep)
			})
		}
		for k, same := range checks {
			if !same() {
				t.Fatalf("answer %d of seed %d has changed", k, seed)
			}
		}
	}
}

// told: what an Engine answers, copied.
func told(g *engine.Engine) (entries []api.Entry, learnts [][]int, log []api.Step) {
	for _, x := range g.Entries() {
		x.Reason = slices.Clone(x.Reason)
		entries = append(entries, x)
	}
	for _, d := range g.Learnts() {
		learnts = append(learnts, slices.Clone(d))
	}
	for _, x := range g.Log() {
		x.Lits = slices.Clone(x.Lits)
		log = append(log, x)
	}
	return entries, learnts, log
}

// Objects: two Engines of one formula know nothing of one another.
func TestTwoEngines(t *testing.T) {
	for seed := range uint64(100) {
		draw := drawn(seed + 1500)
		f := draw.hard(3 + draw.Intn(8))
		a, b := see(t, f), see(t, f)
		for range 60 {
			draw.apt(a).on(a)
			draw.apt(b).on(b)
			a.holds()
		}
	}
}

// numbers: all that an Engine answers along a drawn row of calls, as numbers; with questions between, or without.
func numbers(seed uint64, asks bool) []int {
	draw := drawn(seed + 1700)
	vars := 5 + draw.Intn(12)
	g, e := engine.New(draw.hard(vars))
	out := []int{int(e)}
	for range 200 {
		a := draw.call(vars, len(out)%5)
		switch a.kind {
		case spread:
			if g.Spread() {
				out = append(out, 1000)
			}
		case decide:
			out = append(out, int(g.Decide(a.n)))
		case teach:
			clause, back, e := g.Learn()
			out = append(append(out, clause...), back, int(e))
		case restart:
			out = append(out, int(g.Restart()))
		case forget:
			out = append(out, int(g.Forget(a.n)))
		}
		if asks {
			spoilAll(g)
			g.Level()
			g.Dead()
		}
	}
	for _, x := range g.Entries() {
		out = append(append(out, x.Lit, x.Level), x.Reason...)
	}
	for _, d := range g.Learnts() {
		out = append(append(out, len(d)), d...)
	}
	for _, x := range g.Log() {
		out = append(append(out, len(x.Lits)), x.Lits...)
	}
	return out
}

// Sameness: the same calls answer the same, and to ask changes nothing.
func TestSameAgain(t *testing.T) {
	for seed := range uint64(60) {
		want := numbers(seed, false)
		for k := range 4 {
			if !slices.Equal(numbers(seed, k%2 == 0), want) {
				t.Fatalf("the calls of %d answered otherwise", seed)
			}
		}
	}
}

// Sameness, Objects: so they do while others work with Engines of their own.
func TestSameBesideOneAnother(t *testing.T) {
	want := [][]int{numbers(0, false), numbers(1, false), numbers(2, false), numbers(3, false)}
	var group sync.WaitGroup
	for k := range 16 {
		group.Go(func() {
			for range 5 {
				if seed := k % 4; !slices.Equal(numbers(uint64(seed), false), want[seed]) {
					t.Errorf("the calls of %d answered otherwise", seed)
				}
			}
		})
	}
	group.Wait()
}
