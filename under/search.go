package under

import (
	"slices"

	"depot/api"
	"depot/cnf"
	"depot/engine"
	"depot/lits"
	"depot/pace"
)

// search is an engine on its way to a model that makes some literals true.
type search struct {
	*engine.Engine
	formula   api.Formula // which is the caller's
	wanted    []int       // what is to be true: some literals, each once, none beside its opposite; the first one is the gate
	order     order
	phase     phase
	when      pace.Pace
	budget    int       // so many conflicts it may have; below 0: no bound
	conflicts int       // so many it had
	passed    []passing // the variables that aren't within the order; their levels never fall along it
	work      int       // so much was done since the entries were looked at
	looked    int       // so many entries there were then
}

// passing is a variable that was taken out of the order, and a level: as long as that stands the variable has a value.
type passing struct {
	variable int
	level    int
}

// gateLevel is the level on which all that is to be true is so.
const gateLevel = 1

// clashWork is how much work a clash counts for, where a variable that is taken out of the order counts for 1.
const clashWork = 64

// begun: a search, of what is well shaped.
func begun(f api.Formula, wanted []int, c api.Config) *search {
	g, _ := engine.New(gated(f, wanted))
	when, _ := pace.Make(c)
	return &search{
		Engine:  g,
		formula: f,
		wanted:  wanted,
		order:   orderOf(f.Vars, c.Decay),
		phase:   phaseOf(c, f.Vars),
		when:    when,
		budget:  c.Budget,
	}
}

// gated: what is left of a formula where the first literal, the gate, is true, and for each other literal a clause by which the gate says it. So one decision makes all of them true, and the engine itself sees where they can't be. The gate's variable stands in no other clause: so it never becomes true but by that decision; and what is learnt above its level isn't learnt by those clauses, but follows from the formula and the gate alone.
func gated(f api.Formula, wanted []int) api.Formula {
	gate := wanted[0]
	g, _ := cnf.Under(f, []int{gate})
	for _, l := range wanted[1:] {
		g.Clauses = append(g.Clauses, []int{-gate, l})
	}
	return g
}

// run goes on till the end is known.
func (s *search) run() (o api.Outcome, failed []int) {
	for {
		for !s.Spread() {
			if s.Level() <= gateLevel {
				return s.unsat()
			}
			if s.conflicts == s.budget {
				return api.Outcome{End: api.Out, Conflicts: s.conflicts}, nil
			}
			s.clash()
		}
		if s.Level() < gateLevel {
			if s.Decide(s.wanted[0]) != api.OK {
				return s.unsat()
			}
			continue
		}
		if m, ok := s.Model(); ok {
			return api.Outcome{End: api.Sat, Model: m, Conflicts: s.conflicts}, nil
		}
		s.decide()
	}
}

// unsat ends where what is wanted leads to a clash by unit clauses. That isn't counted.
func (s *search) unsat() (o api.Outcome, failed []int) {
	// What was learnt follows where the gate is true.
	shut := -s.wanted[0]
	known := slices.Clone(s.formula.Clauses)
	for _, c := range s.Learnts() {
		known = append(known, append(c, shut))
	}
	steps := s.Log()
	for k := range steps {
		steps[k].Lits = append(steps[k].Lits, shut)
	}
	failed = guilty(api.Formula{Vars: s.formula.Vars, Clauses: known}, s.wanted)
	return refuted(steps, failed, s.conflicts), failed
}

// clash learns from a clash above the gate's level and goes back; all the way, if it is time.
func (s *search) clash() {
	s.conflicts++
	s.when.Conflict()
	s.look()
	clause, back, _ := s.Learn()
	for _, l := range clause {
		s.order.warm(lits.Var(l))
	}
	s.order.cool()
	// What is true on the gate's level is so again as soon as the gate is.
	s.putBack(max(back, gateLevel))
	if s.when.Restart() {
		s.beginAnew()
	}
}

// beginAnew goes back to level 0, and there forgets some of what was learnt, if it is time.
func (s *search) beginAnew() {
	s.Restart()
	s.putBack(gateLevel)
	if s.when.Clear() && s.Spread() {
		s.forget()
		// Without what is forgotten less may be true on the gate's level.
		s.putBack(0)
	}
}

// forget forgets, of the learnt clauses with more than two literals, the longer half, but for those that are needed; of some that are as long the earlier ones.
func (s *search) forget() {
	learnts := s.Learnts()
	var long []int
	for i, c := range learnts {
		if len(c) > 2 {
			long = append(long, i)
		}
	}
	slices.SortStableFunc(long, func(i, k int) int { return len(learnts[k]) - len(learnts[i]) })
	long = long[:(len(long)+1)/2]
	// Behind one that goes the numbers are others: so the last one goes first.
	slices.Sort(long)
	for _, i := range slices.Backward(long) {
		s.Forget(i)
	}
}

// decide begins a level with the warmest of the open variables. There is one: some variable has no value, and all that are not within the order have one.
func (s *search) decide() {
	for v, ok := s.order.take(); ok; v, ok = s.order.take() {
		e := s.Decide(s.phase.first(v))
		s.passed = append(s.passed, passing{v, s.Level()})
		s.work++
		if e == api.OK {
			return
		}
	}
}

// putBack puts the variables back into the order that may have no values any more, where the levels above one are gone.
func (s *search) putBack(level int) {
	k := len(s.passed)
	for ; k > 0 && s.passed[k-1].level > level; k-- {
		s.order.put(s.passed[k-1].variable)
	}
	s.passed = s.passed[:k]
}

// look keeps the values that there are, and finds on which levels the variables that aren't within the order have them: one that had its value already when it was taken may be of a level below, and can stay out longer. It waits till as much work is done as there are entries: to look at all of them in each clash would take too long, where there are many and few of them go with a clash.
func (s *search) look() {
	s.work += clashWork
	if s.work < s.looked {
		return
	}
	entries := s.Entries()
	s.work, s.looked = 0, len(entries)
	s.passed = s.passed[:0]
	for _, x := range entries {
		s.phase.keep(x.Lit)
		if v := lits.Var(x.Lit); !s.order.within(v) {
			s.passed = append(s.passed, passing{v, x.Level})
		}
	}
}
