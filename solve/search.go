package solve

import (
	"slices"

	"depot/api"
	"depot/engine"
)

// search is an engine on its way through a formula.
type search struct {
	engine    *engine.Engine
	lead      lead
	budget    int      // so many conflicts it may have; below 0: no bound
	conflicts int      // so many it had
	taken     []taking // the variables that aren't within; their levels never fall along it
	work      int      // so much was done since the entries were looked at
	looked    int      // so many entries there were then
}

// taking is a variable that was taken, and a level as long as which stands the variable has a value.
type taking struct {
	variable int
	level    int
}

// clashWork is how much work a clash counts for, where a variable that is taken counts for 1.
const clashWork = 64

// begun: a search of a formula by a config, both of them well shaped.
func begun(f api.Formula, c api.Config) *search {
	g, _ := engine.New(f)
	return &search{engine: g, lead: leadBy(c, f.Vars), budget: c.Budget}
}

// run goes on till the end is known.
func (s *search) run() api.Outcome {
	for {
		for !s.engine.Spread() {
			if s.engine.Level() == 0 {
				return s.unsat()
			}
			if s.conflicts == s.budget {
				return api.Outcome{End: api.Out, Conflicts: s.conflicts}
			}
			s.clash()
		}
		if m, ok := s.engine.Model(); ok {
			return api.Outcome{End: api.Sat, Model: m, Conflicts: s.conflicts}
		}
		s.decide()
	}
}

// unsat ends in a clash on level 0: what that teaches is the empty clause. It isn't counted.
func (s *search) unsat() api.Outcome {
	s.engine.Learn()
	return api.Outcome{End: api.Unsat, Proof: s.engine.Log(), Conflicts: s.conflicts}
}

// clash learns from a clash above level 0 and goes back; all the way, if it is time.
func (s *search) clash() {
	s.conflicts++
	s.lead.conflict()
	s.look()
	clause, back, _ := s.engine.Learn()
	for _, l := range clause {
		s.lead.bump(variable(l))
	}
	s.lead.cool()
	s.putBack(back)
	if s.lead.restart() {
		s.beginAnew()
	}
}

// beginAnew goes back to level 0, and there forgets some of what was learnt, if it is time.
func (s *search) beginAnew() {
	s.engine.Restart()
	s.putBack(0)
	if s.lead.clear() && s.engine.Spread() {
		s.forget()
	}
}

// forget forgets, of the learnt clauses with more than two literals, the longer half, but for those that are needed; of some that are as long the earlier ones.
func (s *search) forget() {
	learnts := s.engine.Learnts()
	var long []int
	for i, c := range learnts {
		if len(c) > 2 {
			long = append(long, i)
		}
	}
	slices.SortStableFunc(long, func(i, k int) int { return len(learnts[k]) - len(learnts[i]) })
	long = long[:(len(long)+1)/2]
	// Behind one that goes the numbers are others: so the last one goes first.
	slices.Sort(long)
	slices.Reverse(long)
	for _, i := range long {
		s.engine.Forget(i)
	}
}

// decide begins a level with the warmest of the open variables. There is one: some variable has no value, and all that are not within have one.
func (s *search) decide() {
	for v, ok := s.lead.take(); ok; v, ok = s.lead.take() {
		e := s.engine.Decide(s.lead.first(v))
		s.taken = append(s.taken, taking{v, s.engine.Level()})
		s.work++
		if e == api.OK {
			return
		}
	}
}

// putBack puts the variables back that may lose their values on the way back to a level.
func (s *search) putBack(level int) {
	k := len(s.taken)
	for ; k > 0 && s.taken[k-1].level > level; k-- {
		s.lead.put(s.taken[k-1].variable)
	}
	s.taken = s.taken[:k]
}

// look keeps the values that there are, and finds on which levels the variables that were taken have them: one that had its value already may be of a level below the one on which it was taken, and can stay out longer. It waits till as much work is done as there are entries: to look at all of them in each clash would take too long, where there are many and few of them go with a clash.
func (s *search) look() {
	s.work += clashWork
	if s.work < s.looked {
		return
	}
	entries := s.engine.Entries()
	s.work, s.looked = 0, len(entries)
	s.taken = s.taken[:0]
	for _, x := range entries {
		s.lead.keep(x.Lit)
		if v := variable(x.Lit); !s.lead.within(v) {
			s.taken = append(s.taken, taking{v, x.Level})
		}
	}
}
