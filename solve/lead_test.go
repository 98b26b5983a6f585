package solve

import (
	"slices"
	"testing"

	"depot/api"
)

// hard: a formula of three literals a clause, with few models or none, drawn from a seed.
func hard(vars int, seed uint64) api.Formula {
	draw := func(n int) int {
		seed = seed*6364136223846793005 + 1442695040888963407
		return int(seed>>33) % n
	}
	f := api.Formula{Vars: vars}
	for range 4*vars + draw(vars) {
		var c []int
		for range 3 {
			c = append(c, (1+draw(vars))*(1-2*draw(2)))
		}
		f.Clauses = append(f.Clauses, c)
	}
	return f
}

// Phase: the value that is tried first.
func TestPhases(t *testing.T) {
	for _, x := range []struct {
		phase int
		value bool
	}{{api.PhaseFalse, false}, {api.PhaseTrue, true}, {api.PhaseKept, false}} {
		config := Usual()
		config.Phase = x.phase
		if o, _ := Solve(api.Formula{Vars: 9}, config); len(o.Model) != 9 || slices.Contains(o.Model, !x.value) {
			t.Errorf("Phase %d: %v", x.phase, o.Model)
		}
		by := leadBy(config, 3)
		for _, l := range []int{2, -3, 3, -3, 1, -1, -2, 2} {
			by.keep(l)
		}
		want := []int{-1, 2, -3}
		if x.phase == api.PhaseFalse {
			want = []int{-1, -2, -3}
		} else if x.phase == api.PhaseTrue {
			want = []int{1, 2, 3}
		}
		if got := []int{by.first(1), by.first(2), by.first(3)}; !slices.Equal(got, want) {
			t.Errorf("Phase %d: %v are tried first, wanted %v", x.phase, got, want)
		}
	}
}

// Behind each conflict, and nowhere else, the search is told of it, cooled, and asks whether it is time to begin anew; where it is, whether it is time to clear.
func TestLeadIsAsked(t *testing.T) {
	for seed := range uint64(40) {
		s := begun(hard(30, seed), brisk(seed))
		by, told, cooled, asked, yes, clears := s.lead, 0, 0, 0, 0, 0
		s.lead.conflict = func() { told++; by.conflict() }
		s.lead.cool = func() { cooled++; by.cool() }
		s.lead.restart = func() bool {
			if asked++; asked != told {
				t.Errorf("asked %d times behind %d conflicts", asked, told)
			}
			now := by.restart()
			if now {
				yes++
			}
			return now
		}
		s.lead.clear = func() bool { clears++; return by.clear() }
		o := s.run()
		if told != o.Conflicts || cooled != told || asked != told || clears != yes {
			t.Errorf("%d conflicts, %d told, %d times cooled, %d times asked, %d times yes, %d times asked for a clearing", o.Conflicts, told, cooled, asked, yes, clears)
		}
	}
}

// In each conflict the variables of the clause that is learnt are warmed, and the values that there are are kept, where they aren't too many.
func TestLeadIsTold(t *testing.T) {
	for seed := range uint64(40) {
		s := begun(hard(40, seed), brisk(seed))
		var bumped, kept []int
		by := s.lead
		s.lead.bump = func(v int) api.Errno { bumped = append(bumped, v); return by.bump(v) }
		s.lead.keep = func(l int) { kept = append(kept, l); by.keep(l) }
		through(s, 300, func() {
			var entries []int
			for _, x := range s.engine.Entries() {
				entries = append(entries, x.Lit)
			}
			adds := len(s.engine.Log())
			bumped, kept = nil, nil
			s.clash()
			var learnt []int
			for _, l := range s.engine.Log()[adds].Lits {
				learnt = append(learnt, variable(l))
			}
			if !slices.Equal(bumped, learnt) || !slices.Equal(kept, entries) {
				t.Fatalf("warmed %v, learnt %v; kept %v of %v", bumped, learnt, kept, entries)
			}
		}, func() {})
	}
}

// through goes so many decisions on, with a call for each clash above level 0 and one behind each decision.
func through(s *search, decisions int, clash, decided func()) {
	for range decisions {
		for !s.engine.Spread() {
			if s.engine.Level() == 0 {
				return
			}
			clash()
		}
		if _, ok := s.engine.Model(); ok {
			return
		}
		s.decide()
		decided()
	}
}

// brisk: configs by which there are restarts and clearings.
func brisk(seed uint64) api.Config {
	n := int(seed)
	return api.Config{Base: 1 + n%3, First: 1 + n%7, Grow: 1 + n%2, Decay: 0.5 + float64(n%6)/10, Phase: 1 + n%3, Budget: -1}
}

// Behind each decision all open variables are within, and those that aren't within are taken, each once; the levels with them don't fall, and none is below the one on which the variable has its value.
func TestTaken(t *testing.T) {
	for seed := range uint64(60) {
		s := begun(hard(150, seed), brisk(seed))
		through(s, 400, s.clash, func() { holds(t, s, 150) })
	}
}

// holds: what TestTaken says.
func holds(t *testing.T, s *search, vars int) {
	t.Helper()
	levels := map[int]int{}
	for _, x := range s.engine.Entries() {
		levels[variable(x.Lit)] = x.Level
	}
	last, out := 0, map[int]int{}
	for _, x := range s.taken {
		own, ok := levels[x.variable]
		if out[x.variable]++; out[x.variable] > 1 || !ok || own > x.level || x.level < last || s.lead.within(x.variable) {
			t.Fatalf("taken: %v, of levels %v", s.taken, levels)
		}
		last = x.level
	}
	for v := 1; v <= vars; v++ {
		if s.lead.within(v) == (out[v] > 0) {
			t.Fatalf("%d: within is %v; taken: %v", v, s.lead.within(v), s.taken)
		}
	}
}
