package engine_test

import (
	"slices"
	"testing"

	"depot/api"
	"depot/cnf"
	"depot/engine"
	"depot/forward"
	"depot/learn"
	"depot/lits"
	"depot/rup"
	"depot/unit"
)

// moment is an Engine behind a call, beside what it said ahead of the call.
type moment struct {
	f     api.Formula
	g     *engine.Engine
	ahead []api.Entry
	kind  int
	ok    bool // a Spread answered true; another call was carried out
}

// clauses: the formula's and the learnts.
func (m moment) clauses() [][]int { return slices.Concat(m.f.Clauses, m.g.Learnts()) }

// moments goes through drawn rows of calls in whatever order, with nothing known of the Engine but what it answers.
func moments(seeds, from uint64, hard bool, look func(m moment)) {
	for seed := range seeds {
		draw := drawn(seed + from)
		vars := 2 + draw.Intn(9)
		m := moment{f: draw.formula(vars, 3*vars)}
		if hard {
			m.f = draw.hard(vars)
		}
		m.g, _ = engine.New(m.f)
		for range 90 {
			m.ahead = m.g.Entries()
			a := draw.call(vars, len(m.g.Learnts()))
			m.kind = a.kind
			switch e := api.OK; a.kind {
			case spread:
				m.ok = m.g.Spread()
			case decide:
				m.ok = m.g.Decide(a.n) == api.OK
			case teach:
				_, _, e = m.g.Learn()
				m.ok = e == api.OK
			case restart:
				m.ok = m.g.Restart() == api.OK
			case forget:
				m.ok = m.g.Forget(a.n) == api.OK
			}
			look(m)
		}
	}
}

// P16.8: at every moment the entries are well shaped.
func TestEntriesAreFormed(t *testing.T) {
	moments(400, 100, true, func(m moment) {
		if got := m.g.Entries(); !learn.Formed(got) {
			t.Fatalf("%v aren't well shaped", got)
		}
	})
}

// P16.8: each entry that is no decision has a Reason that is one of the clauses.
func TestReasonsAreClauses(t *testing.T) {
	moments(400, 1100, true, func(m moment) {
		clauses, decisions := m.clauses(), 0
		for _, x := range m.g.Entries() {
			if len(x.Reason) == 0 {
				decisions++
			} else if !slices.ContainsFunc(clauses, func(d []int) bool { return lits.Same(d, x.Reason) }) {
				t.Fatalf("the Reason of %v is none of %v", x, clauses)
			}
		}
		if decisions != m.g.Level() {
			t.Fatalf("%d decisions on level %d", decisions, m.g.Level())
		}
	})
}

// P16.8: entries that stay through a call stand as they were, at their places.
func TestEntriesStay(t *testing.T) {
	moments(400, 2100, true, func(m moment) {
		now, stay := m.g.Entries(), m.ahead
		switch {
		case m.kind == restart && m.ok:
			stay = slices.DeleteFunc(stay, func(x api.Entry) bool { return x.Level > 0 })
		case m.kind == teach && m.ok && !m.g.Dead():
			stay = slices.DeleteFunc(stay, func(x api.Entry) bool { return x.Level > m.g.Level() })
		case m.kind == forget || !m.ok && m.kind != spread:
			if len(now) != len(stay) {
				t.Fatalf("%v, were %v", now, stay)
			}
		}
		if len(now) < len(stay) || !slices.EqualFunc(now[:len(stay)], stay, sameEntry) {
			t.Fatalf("%v, were %v", now, stay)
		}
	})
}

// P16.8: in a clash one of the clauses is false under the entries.
func TestClashIsFalse(t *testing.T) {
	clashes := 0
	moments(400, 3100, true, func(m moment) {
		if m.kind != spread || m.ok || m.g.Dead() {
			return
		}
		clashes++
		entries := m.g.Entries()
		if !slices.ContainsFunc(m.clauses(), func(d []int) bool { return isFalse(entries, d) }) {
			t.Fatalf("none of %v is false under %v", m.clauses(), entries)
		}
	})
	if clashes < 500 {
		t.Errorf("only %d clashes", clashes)
	}
}

// decisionsOf: the literals of the first so many levels' decisions.
func decisionsOf(entries []api.Entry, levels int) []int {
	var out []int
	for _, x := range entries {
		if len(x.Reason) == 0 && x.Level <= levels {
			out = append(out, x.Lit)
		}
	}
	return out
}

// P16.9: at rest, and so behind a Forget, the entries of each level and those below it are just what follows from the decisions.
func TestRestIsClosed(t *testing.T) {
	rests := 0
	for seed := range uint64(500) {
		draw := drawn(seed + 4100)
		s := see(t, draw.hard(4+draw.Intn(8)))
		s.known = true
		for range 80 {
			draw.apt(s).on(s)
			if s.rests() {
				s.closed()
				rests++
			}
		}
	}
	if rests < 5000 {
		t.Errorf("only %d times at rest", rests)
	}
}

// P16.9: Spread answers false just if a clash follows from the decisions.
func TestSpreadIsClose(t *testing.T) {
	rests, clashes := 0, 0
	moments(600, 5100, true, func(m moment) {
		if m.kind != spread {
			return
		}
		decisions := decisionsOf(m.g.Entries(), m.g.Level())
		_, clash, _ := unit.Close(form(m.f.Vars, m.clauses()...), decisions)
		if clash == m.ok {
			t.Fatalf("Spread = %v, of %v with %v decided", m.ok, m.clauses(), decisions)
		}
		if clash {
			clashes++
		} else {
			rests++
		}
	})
	if rests < 500 || clashes < 500 {
		t.Errorf("only %d times at rest, %d clashes", rests, clashes)
	}
}

// P16.10, P2: forward takes each step of the log, whatever calls there were, and has the clauses then.
func TestLogIsTaken(t *testing.T) {
	steps, drops, dead := 0, 0, 0
	for seed := range uint64(500) {
		draw := drawn(seed + 6100)
		f := draw.hard(6 + draw.Intn(14))
		f.Clauses = append(f.Clauses, f.Clauses[0], c(1, -1))
		s := see(t, f)
		s.known = true
		for range 200 {
			draw.apt(s).on(s)
		}
		w, _ := forward.New(f)
		for _, step := range s.g.Log() {
			steps++
			if step.Drop {
				drops++
				if k, e := w.Drop(step.Lits); k != forward.Gone || e != api.OK {
					t.Fatalf("%v: %d, %d", step, k, e)
				}
			} else if k, e := w.Add(step.Lits); k != rup.Rup || e != api.OK {
				t.Fatalf("%v: %d, %d", step, k, e)
			}
		}
		want := slices.Concat(f.Clauses, s.g.Learnts())
		if s.g.Dead() {
			dead++
			want = append(want, nil)
		}
		other, _ := forward.New(form(f.Vars, want...))
		if !slices.EqualFunc(w.Clauses(), other.Clauses(), slices.Equal[[]int]) {
			t.Fatalf("forward has %v, wanted %v", w.Clauses(), other.Clauses())
		}
	}
	if steps < 2000 || drops < 500 || dead < 100 {
		t.Errorf("only %d steps, %d drops, %d dead", steps, drops, dead)
	}
}

// P16.10: a dead Engine's log is a proof that forward.Check accepts, with its last step.
func TestDeadIsProved(t *testing.T) {
	dead := 0
	for seed := range uint64(400) {
		draw := drawn(seed + 7100)
		s := see(t, draw.hard(3+draw.Intn(8)))
		s.known = true
		search(s, draw)
		if !s.g.Dead() {
			continue
		}
		dead++
		proof := s.g.Log()
		if r, e := forward.Check(s.f, proof); e != api.OK || r != (api.Report{Code: api.Accepted, At: len(proof) - 1}) {
			t.Fatalf("Check = %v, %d, of %v", r, e, proof)
		}
	}
	if dead < 50 {
		t.Errorf("only %d dead", dead)
	}
}

// P16.11: a model that satisfies the formula makes a literal of every learnt true, and where there is one the Engine is never dead.
func TestLearntsFollow(t *testing.T) {
	learnts, dead := 0, 0
	moments(300, 8100, true, func(m moment) {
		if m.kind != teach || !m.ok {
			return
		}
		for _, d := range m.g.Learnts() {
			learnts++
			if yes, e := cnf.Entails(m.f, d); !yes || e != api.OK {
				t.Fatalf("%v doesn't follow from %v", d, m.f)
			}
		}
		if n, _ := cnf.Count(m.f); m.g.Dead() && n > 0 {
			t.Fatalf("dead, but %v has %d models", m.f, n)
		}
		if m.g.Dead() {
			dead++
		}
	})
	if learnts < 500 || dead < 50 {
		t.Errorf("only %d learnts, %d dead", learnts, dead)
	}
}

// P16.11: Model's answer satisfies the formula and the learnts.
func TestModelSatisfies(t *testing.T) {
	found := 0
	look := func(m moment) {
		model, ok := m.g.Model()
		if !ok {
			return
		}
		found++
		if !cnf.Satisfies(form(m.f.Vars, m.clauses()...), model) {
			t.Fatalf("%v doesn't satisfy %v", model, m.clauses())
		}
	}
	moments(300, 9100, true, look)
	moments(300, 9600, false, look)
	if found < 500 {
		t.Errorf("only %d models", found)
	}
}

// P16.11, P17's ground: a search that decides till it ends finds a model just if there is one.
func TestSearchDecides(t *testing.T) {
	for seed := range uint64(300) {
		draw := drawn(seed + 9900)
		s := see(t, draw.hard(3+draw.Intn(10)))
		s.known = true
		search(s, draw)
		n, _ := cnf.Count(s.f)
		if m, ok := s.g.Model(); ok != (n > 0) || s.g.Dead() == ok || ok && !cnf.Satisfies(s.f, m) {
			t.Fatalf("Model = %v, %v, Dead = %v; %v has %d models", m, ok, s.g.Dead(), s.f, n)
		}
	}
}
