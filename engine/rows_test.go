package engine_test

import (
	"slices"
	"testing"

	"depot/api"
)

// count is how often a row of calls came to something.
type count struct{ rows, clashes, learnt, dead, models, forgotten, locked int }

// note counts what a call came to.
func (n *count) note(a call, s *seen, learnts int) {
	n.rows++
	switch {
	case a.kind == teach && s.dead:
		n.dead++
	case a.kind == teach && s.taught:
		n.learnt++
	case a.kind == spread && s.clashes():
		n.clashes++
	case a.kind == forget && len(s.learnts) < learnts:
		n.forgotten++
	case a.kind == forget && s.rests() && 0 <= a.n && a.n < learnts:
		n.locked++
	}
	if s.rests() && len(s.entries) == s.f.Vars {
		n.models++
	}
}

// all tries all rows of so many calls more, behind those of a row. Behind a call that changes nothing there is nothing new to be tried.
func all(t *testing.T, f api.Formula, row, calls []call, more int, n *count) {
	for _, a := range calls {
		s := see(t, f)
		s.known = true
		for _, b := range row {
			b.on(s)
		}
		s.known = false
		learnts := len(s.learnts)
		changed := a.on(s)
		n.note(a, s, learnts)
		if changed && more > 1 {
			all(t, f, append(slices.Clone(row), a), calls, more-1, n)
		}
	}
}

// P16.1 to P16.10: all rows of calls on small formulas, against the chapter's words.
func TestAllRows(t *testing.T) {
	calls := func(decisions ...int) []call {
		out := []call{{kind: spread}, {kind: teach}, {kind: restart}, {forget, 0}, {forget, 1}}
		for _, l := range decisions {
			out = append(out, call{decide, l})
		}
		return out
	}
	var n count
	all(t, form(3, c(1, 2), c(1, -2), c(-1, 3), c(-1, -3)), nil, calls(-1, 1), 9, &n)
	all(t, form(4, c(-1, -2, 3), c(-1, -2, -3)), nil, calls(1, 2), 13, &n)
	all(t, form(3, c(1, 1, 2), c(-2, 2), c(-1, -3, -1), c(3, -2)), nil, calls(-1, -2, 3), 8, &n)
	all(t, form(3, c(3), c(-1, 2, -3), c(-2, -1)), nil, calls(1, 2, -2), 8, &n)
	all(t, form(1, c(1), c(-1)), nil, calls(1), 6, &n)
	all(t, form(2, c(2), c(), c(1)), nil, calls(1, 2), 6, &n)
	all(t, form(2), nil, calls(1, -2), 8, &n)
	if n.clashes < 100 || n.learnt < 100 || n.dead < 10 || n.models < 100 || n.forgotten < 10 || n.locked < 10 {
		t.Errorf("only %+v", n)
	}
	all(t, form(0), nil, calls(1), 4, &n)
	all(t, form(0, c()), nil, calls(1), 5, &n)
}

// P16.1 to P16.10: long rows of drawn calls on drawn formulas.
func TestDrawnRows(t *testing.T) {
	var n count
	for seed := range uint64(1200) {
		draw := drawn(seed)
		vars := 1 + draw.Intn(12)
		f := draw.formula(vars, draw.Intn(4*vars))
		if seed%2 == 0 {
			f = draw.hard(vars)
		}
		s := see(t, f)
		for range 80 {
			a := draw.call(vars, len(s.learnts))
			if draw.Intn(3) > 0 {
				a = draw.apt(s)
			}
			learnts := len(s.learnts)
			a.on(s)
			n.note(a, s, learnts)
			if s.dead && draw.Intn(6) == 0 {
				break
			}
		}
	}
	if n.clashes < 1000 || n.learnt < 1000 || n.dead < 100 || n.models < 100 || n.forgotten < 100 || n.locked < 50 {
		t.Errorf("only %+v", n)
	}
}

// search goes on with drawn decisions and calls till there is a model, or the Engine is dead.
func search(s *seen, draw *drawer) {
	for !s.dead {
		if !s.Spread() {
			s.Learn()
			continue
		}
		if _, ok := s.g.Model(); ok {
			return
		}
		switch draw.Intn(12) {
		case 0:
			s.Restart()
		case 1, 2:
			if len(s.learnts) > 0 && draw.Intn(3) == 0 {
				s.Forget(draw.Intn(len(s.learnts)))
			}
		default:
			s.Decide(draw.literal(s.f.Vars))
		}
	}
}

// P16.1 to P16.10: whole searches, with restarts and clauses that are forgotten.
func TestDrawnSearches(t *testing.T) {
	dead, models := 0, 0
	for seed := range uint64(150) {
		draw := drawn(seed + 7000)
		s := see(t, draw.hard(6+draw.Intn(12)))
		search(s, draw)
		if s.dead {
			dead++
		} else {
			models++
		}
	}
	if dead < 30 || models < 30 {
		t.Errorf("only %d dead, %d models", dead, models)
	}
}
