package engine_test

import (
	"math"
	"slices"
	"testing"

	"depot/api"
	"depot/engine"
	"depot/forward"
	"depot/learn"
	"depot/lits"
	"depot/unit"
)

// far are numbers that are literals of no Engine.
var far = []int{0, api.MaxVar + 1, -api.MaxVar - 1, 2 * api.MaxVar, math.MaxInt32, math.MinInt32, 1 << 40, -1 << 40, math.MaxInt, math.MaxInt - 1, math.MinInt, math.MinInt + 1}

// form: a formula of so many variables and these clauses.
func form(vars int, clauses ...[]int) api.Formula {
	return api.Formula{Vars: vars, Clauses: clauses}
}

// c: a clause, or a list of literals.
func c(literals ...int) []int { return literals }

// at: an entry.
func at(lit, level int, reason ...int) api.Entry {
	return api.Entry{Lit: lit, Level: level, Reason: reason}
}

// add: a step that adds a clause.
func add(literals ...int) api.Step { return api.Step{Lits: literals} }

// drop: one that takes it out.
func drop(literals ...int) api.Step { return api.Step{Drop: true, Lits: literals} }

// made: an Engine of a formula.
func made(t *testing.T, f api.Formula) *engine.Engine {
	t.Helper()
	g, e := engine.New(f)
	if g == nil || e != api.OK {
		t.Fatalf("New(%v): error %d", f, e)
	}
	return g
}

func sameEntry(a, b api.Entry) bool {
	return a.Lit == b.Lit && a.Level == b.Level && slices.Equal(a.Reason, b.Reason)
}

func sameStep(a, b api.Step) bool { return a.Drop == b.Drop && slices.Equal(a.Lits, b.Lits) }

// isTrue: does the literal stand among the entries?
func isTrue(entries []api.Entry, l int) bool {
	return slices.ContainsFunc(entries, func(x api.Entry) bool { return x.Lit == l })
}

// isFalse: is the clause false under the entries, in chapter 6's words?
func isFalse(entries []api.Entry, clause []int) bool {
	return !slices.ContainsFunc(clause, func(l int) bool { return !isTrue(entries, -l) })
}

// isUnit: is the clause unit on the literal under them?
func isUnit(entries []api.Entry, clause []int, l int) bool {
	if !slices.Contains(clause, l) || isTrue(entries, l) || isTrue(entries, -l) {
		return false
	}
	return !slices.ContainsFunc(clause, func(x int) bool { return x != l && !isTrue(entries, -x) })
}

// seen is an Engine beside what is known of it by the chapter's words and by what it has answered. All calls go through it, and are held against the words.
type seen struct {
	t       *testing.T
	f       api.Formula
	g       *engine.Engine
	entries []api.Entry
	learnts [][]int
	log     []api.Step
	dead    bool
	spread  bool             // there was a Spread
	yes     bool             // the last one answered true
	stirred bool             // a Decide, Learn or Restart was carried out since
	taught  bool             // a Learn was
	proof   *forward.Forward // what has been checked of the log
	checked int              // so many of its steps
	known   bool             // the calls have been held against the words already
}

// see: a new Engine of a formula.
func see(t *testing.T, f api.Formula) *seen {
	t.Helper()
	w, _ := forward.New(f)
	s := &seen{t: t, f: f, g: made(t, f), proof: w}
	s.holds()
	return s
}

func (s *seen) rests() bool { return s.spread && s.yes && !s.stirred }

func (s *seen) clashes() bool { return !s.dead && s.spread && !s.yes && !s.taught }

// level: how many decisions there are.
func (s *seen) level() int {
	n := 0
	for _, x := range s.entries {
		if len(x.Reason) == 0 {
			n++
		}
	}
	return n
}

// clauses: the formula's and the learnts.
func (s *seen) clauses() [][]int { return slices.Concat(s.f.Clauses, s.learnts) }

// has: is it one of the clauses?
func (s *seen) has(clause []int) bool {
	return slices.ContainsFunc(s.clauses(), func(other []int) bool { return lits.Same(other, clause) })
}

// upTo: the entries of levels up to that one.
func (s *seen) upTo(level int) []api.Entry {
	n := 0
	for n < len(s.entries) && s.entries[n].Level <= level {
		n++
	}
	return slices.Clone(s.entries[:n])
}

// fail tells what was wrong, and in which Engine.
func (s *seen) fail(what string, more ...any) {
	s.t.Helper()
	s.t.Fatalf("%s: %v; formula %v, entries %v, learnts %v, log %v", what, more, s.f, s.entries, s.learnts, s.log)
}

// ends: a call has ended with the error that it should.
func (s *seen) ends(what string, got, want api.Errno) bool {
	if got != want {
		s.fail(what, got, "wanted", want)
	}
	return got == api.OK
}

// Spread: P16.2.
func (s *seen) Spread() bool {
	quiet := s.dead || s.clashes() || s.rests()
	want := s.rests()
	got := s.g.Spread()
	if !quiet {
		s.spreads(got)
		s.spread, s.yes, s.stirred, s.taught = true, got, false, false
	} else if got != want {
		s.fail("Spread again", got)
	}
	s.holds()
	return got
}

// spreads: what came in did so as P16.2 asks.
func (s *seen) spreads(answer bool) {
	level, ahead := s.level(), len(s.entries)
	now := s.g.Entries()
	if len(now) < ahead || !slices.EqualFunc(now[:ahead], s.entries, sameEntry) {
		s.fail("Spread leaves entries otherwise", now)
	}
	wrong := func(k int) bool {
		return slices.ContainsFunc(s.clauses(), func(d []int) bool { return isFalse(now[:k], d) })
	}
	for k := ahead; k < len(now); k++ {
		if x := now[k]; x.Level != level || !s.has(x.Reason) || !isUnit(now[:k], x.Reason, x.Lit) || wrong(k) {
			s.fail("Spread lets come in", x, "behind", now[:k])
		}
	}
	s.entries = now
	if wrong(len(now)) == answer {
		s.fail("Spread answers", answer)
	}
	for _, d := range s.clauses() {
		if answer && slices.ContainsFunc(d, func(l int) bool { return isUnit(now, d, l) }) {
			s.fail("Spread leaves a clause unit", d)
		}
	}
	var decisions []int
	for _, x := range now {
		if len(x.Reason) == 0 {
			decisions = append(decisions, x.Lit)
		}
	}
	if _, clash, _ := unit.Close(form(s.f.Vars, s.clauses()...), decisions); clash == answer {
		s.fail("Spread answers otherwise than Close", answer)
	}
}

// Decide: P16.3.
func (s *seen) Decide(l int) api.Errno {
	want := api.OK
	switch {
	case !lits.Formed(l) || lits.Var(l) > s.f.Vars:
		want = api.ErrShape
	case !s.rests():
		want = api.ErrTurn
	case isTrue(s.entries, l) || isTrue(s.entries, -l):
		want = api.ErrSet
	}
	if s.ends("Decide", s.g.Decide(l), want) {
		s.entries = append(s.entries, at(l, s.level()+1))
		s.stirred = true
	}
	s.holds()
	return want
}

// Learn: P16.4.
func (s *seen) Learn() ([]int, int, api.Errno) {
	if !s.clashes() {
		clause, back, e := s.g.Learn()
		if s.ends("Learn", e, api.ErrTurn); len(clause) != 0 || back != 0 {
			s.fail("Learn answers beside a refusal", clause, back)
		}
		s.holds()
		return nil, 0, api.ErrTurn
	}
	clause, back, e := s.g.Learn()
	s.ends("Learn", e, api.OK)
	if !s.teaches(clause, back) {
		s.fail("Learn", clause, back)
	}
	s.log = append(s.log, add(slices.Clone(clause)...))
	s.stirred, s.taught = true, true
	if len(clause) == 0 {
		s.dead = true
	} else {
		s.learnts = append(s.learnts, slices.Clone(clause))
		s.entries = append(s.upTo(back), at(clause[0], back, slices.Clone(clause)...))
	}
	s.holds()
	return clause, back, api.OK
}

// teaches: is there a clause K that is false, of which learn answers that?
func (s *seen) teaches(clause []int, back int) bool {
	return slices.ContainsFunc(s.clauses(), func(k []int) bool {
		if !isFalse(s.entries, k) {
			return false
		}
		want, b, _ := learn.Learn(s.entries, k)
		want, _ = learn.Shrink(s.entries, want)
		return b == back && slices.Equal(want, clause)
	})
}

// Restart: P16.5.
func (s *seen) Restart() api.Errno {
	want := api.OK
	if s.clashes() || s.dead {
		want = api.ErrTurn
	}
	if s.ends("Restart", s.g.Restart(), want) {
		s.entries = s.upTo(0)
		s.stirred = true
	}
	s.holds()
	return want
}

// Forget: P16.6.
func (s *seen) Forget(i int) api.Errno {
	want := api.OK
	switch {
	case !s.rests():
		want = api.ErrTurn
	case i < 0 || i >= len(s.learnts):
		want = api.ErrRange
	case s.locked(s.learnts[i]):
		want = api.ErrLocked
	}
	if s.ends("Forget", s.g.Forget(i), want) {
		s.log = append(s.log, drop(s.learnts[i]...))
		s.learnts = slices.Delete(s.learnts, i, i+1)
	}
	s.holds()
	return want
}

// locked: by P16.6's words.
func (s *seen) locked(clause []int) bool {
	low := s.upTo(0)
	holds := func(l int) bool {
		return isTrue(low, l) && isFalse(low, lits.Without(clause, l))
	}
	reason := func(x api.Entry) bool { return lits.Same(x.Reason, clause) }
	return slices.ContainsFunc(clause, holds) || slices.ContainsFunc(s.entries, reason)
}
