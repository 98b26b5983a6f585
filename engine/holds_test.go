package engine_test

import (
	"slices"

	"depot/api"
	"depot/forward"
	"depot/learn"
	"depot/lits"
	"depot/rup"
	"depot/unit"
)

// holds: the Engine answers all questions by the chapter's words, and what is promised at every moment is so.
func (s *seen) holds() {
	if s.known {
		return
	}
	s.answers()
	s.formed()
	s.proves()
	if s.rests() {
		s.closed()
	}
}

// answers: P16.7, and Learnts of P16.6.
func (s *seen) answers() {
	if got := s.g.Entries(); !slices.EqualFunc(got, s.entries, sameEntry) {
		s.fail("Entries", got)
	}
	if got := s.g.Learnts(); !slices.EqualFunc(got, s.learnts, slices.Equal[[]int]) {
		s.fail("Learnts", got)
	}
	if got := s.g.Log(); !slices.EqualFunc(got, s.log, sameStep) {
		s.fail("Log", got)
	}
	if got := s.g.Level(); got != s.level() {
		s.fail("Level", got)
	}
	if got := s.g.Dead(); got != s.dead {
		s.fail("Dead", got)
	}
	var want []bool
	whole := s.rests() && len(s.entries) == s.f.Vars
	for v := 1; whole && v <= s.f.Vars; v++ {
		want = append(want, isTrue(s.entries, v))
	}
	if got, ok := s.g.Model(); ok != whole || !slices.Equal(got, want) {
		s.fail("Model", got, ok)
	}
}

// formed: P16.8. (That entries stay as they are through a call is seen in each call.)
func (s *seen) formed() {
	if !learn.Formed(s.entries) {
		s.fail("the entries aren't well shaped")
	}
	for k, x := range s.entries {
		begins := x.Level > 0 && (k == 0 || s.entries[k-1].Level < x.Level)
		if !begins && !s.has(x.Reason) {
			s.fail("no clause is the Reason of", x)
		}
	}
	if s.clashes() && !slices.ContainsFunc(s.clauses(), func(d []int) bool { return isFalse(s.entries, d) }) {
		s.fail("in a clash no clause is false")
	}
}

// closed: P16.9.
func (s *seen) closed() {
	f := form(s.f.Vars, s.clauses()...)
	var decisions []int
	for d := range s.level() + 1 {
		known := s.upTo(d)
		for _, x := range known {
			if x.Level == d && len(x.Reason) == 0 {
				decisions = append(decisions, x.Lit)
			}
		}
		want, clash, _ := unit.Close(f, decisions)
		if got := lits.Tidy(literals(known)); clash || !slices.Equal(got, want) {
			s.fail("at rest on level", d, got, "wanted", want)
		}
	}
}

// literals: what is true.
func literals(entries []api.Entry) []int {
	var out []int
	for _, x := range entries {
		out = append(out, x.Lit)
	}
	return out
}

// proves: P16.10, step by step as the log grows.
func (s *seen) proves() {
	for _, step := range s.log[s.checked:] {
		if step.Drop {
			if k, e := s.proof.Drop(step.Lits); k != forward.Gone || e != api.OK {
				s.fail("forward drops", step, k, e)
			}
		} else if k, e := s.proof.Add(step.Lits); k != rup.Rup || e != api.OK {
			s.fail("forward adds", step, k, e)
		}
	}
	if s.checked == len(s.log) && s.checked > 0 {
		return
	}
	s.checked = len(s.log)
	want := s.clauses()
	if s.dead {
		want = append(want, nil)
	}
	other, _ := forward.New(form(s.f.Vars, want...))
	if got := s.proof.Clauses(); !slices.EqualFunc(got, other.Clauses(), slices.Equal[[]int]) {
		s.fail("forward has", got)
	}
}

// drawer draws things by a rule of its own, so that they are the same at every run.
type drawer struct{ state uint64 }

func drawn(seed uint64) *drawer { return &drawer{seed*2654435761 + 12345} }

// Intn: a number from 0 to n - 1.
func (d *drawer) Intn(n int) int {
	d.state = d.state*6364136223846793005 + 1442695040888963407
	return int(d.state>>33) % n
}

// literal: a literal of the variables 1 to vars.
func (d *drawer) literal(vars int) int { return lits.At(d.Intn(2 * vars)) }

// clause: mostly of two to four literals, now and then of fewer; some stand in it twice, or beside their opposites.
func (d *drawer) clause(vars int) []int {
	n := 2 + d.Intn(3)
	switch d.Intn(200) {
	case 0:
		n = 0
	case 1, 2, 3, 4, 5:
		n = 1
	}
	var out []int
	for range n {
		out = append(out, d.literal(vars))
	}
	return out
}

// formula: of so many variables and clauses.
func (d *drawer) formula(vars, clauses int) api.Formula {
	f := form(vars)
	for range clauses {
		f.Clauses = append(f.Clauses, d.clause(vars))
	}
	return f
}

// hard: a formula of three literals a clause, few or none of which models satisfy.
func (d *drawer) hard(vars int) api.Formula {
	f := form(vars)
	for range 4*vars + d.Intn(2*vars) {
		f.Clauses = append(f.Clauses, c(d.literal(vars), d.literal(vars), d.literal(vars)))
	}
	return f
}

// The calls that may change an Engine.
const (
	spread = iota
	decide
	teach
	restart
	forget
)

// call is one of them, with its literal or number.
type call struct{ kind, n int }

// on carries the call out; whether it may have changed something.
func (a call) on(s *seen) bool {
	switch a.kind {
	case decide:
		return s.Decide(a.n) == api.OK
	case teach:
		_, _, e := s.Learn()
		return e == api.OK
	case restart:
		return s.Restart() == api.OK
	case forget:
		return s.Forget(a.n) == api.OK
	}
	quiet := s.dead || s.clashes() || s.rests()
	s.Spread()
	return !quiet
}

// call: one for an Engine of so many variables and learnts; some are refused.
func (d *drawer) call(vars, learnts int) call {
	switch n := d.Intn(50); {
	case n < 17:
		return call{kind: spread}
	case n < 32:
		return call{decide, d.literal(vars)}
	case n < 42:
		return call{kind: teach}
	case n < 44:
		return call{kind: restart}
	case n < 48:
		return call{forget, d.Intn(learnts+2) - d.Intn(2)}
	}
	if d.Intn(2) == 0 {
		return call{forget, far[d.Intn(len(far))]}
	}
	return call{decide, []int{0, vars + 1, -vars - 1, far[d.Intn(len(far))]}[d.Intn(4)]}
}

// apt: a call that is the Engine's turn.
func (d *drawer) apt(s *seen) call {
	switch {
	case s.clashes():
		return call{kind: teach}
	case !s.rests():
		return call{kind: spread}
	case len(s.learnts) > 0 && d.Intn(4) == 0:
		return call{forget, d.Intn(len(s.learnts))}
	case len(s.entries) == s.f.Vars || d.Intn(12) == 0:
		return call{kind: restart}
	}
	return call{decide, d.literal(s.f.Vars)}
}
