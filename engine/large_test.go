package engine_test

import (
	"slices"
	"testing"

	"depot/api"
	"depot/engine"
	"depot/forward"
)

// chain: a formula of so many variables, each saying the next.
func chain(n int) api.Formula {
	f := form(n)
	for v := 1; v < n; v++ {
		f.Clauses = append(f.Clauses, c(-v, v+1))
	}
	return f
}

// Any argument: a row of literals, each saying the next, at the greatest number of variables; and a clash at its end.
func TestLongChain(t *testing.T) {
	const n = api.MaxVar
	g := made(t, chain(n))
	down(t, g, 1)
	spreads(t, g, true)
	if m, ok := g.Model(); !ok || slices.Contains(m, false) {
		t.Error("all are true")
	}
	if got := g.Entries(); len(got) != n || !sameEntry(got[n-1], at(n, 1, 1-n, n)) {
		t.Errorf("%d entries", len(got))
	}
	f := chain(n)
	f.Clauses = append(f.Clauses, c(-n, -1, -n/2))
	g = made(t, f)
	down(t, g, 1)
	spreads(t, g, false)
	learns(t, g, c(-1), 0)
	spreads(t, g, true)
	enters(t, g, at(-1, 0, -1))
}

// Any argument: as many levels as there are variables, there and back.
func TestManyLevels(t *testing.T) {
	const n = api.MaxVar
	g := made(t, form(n, c(-n, -1)))
	for v := 1; v < n; v++ {
		if !g.Spread() || g.Decide(-v) != api.OK {
			t.Fatalf("%d can't be decided", -v)
		}
		if _, ok := g.Model(); ok {
			t.Fatal("a model")
		}
	}
	down(t, g, n)
	spreads(t, g, true)
	if m, ok := g.Model(); !ok || !m[n-1] || slices.Contains(m[:n-1], true) || g.Level() != n {
		t.Error("all but the last are false")
	}
	ends(t, g.Restart(), api.OK)
	enters(t, g)
}

// Any argument: a long clause whose literals become false one level behind the other, there and back and there again; and a clash over all levels.
func TestLongClause(t *testing.T) {
	const n = 100000
	var long []int
	for v := 1; v <= n; v++ {
		long = append(long, v)
	}
	g := made(t, form(n+1, append(slices.Clone(long), n+1), append(slices.Clone(long), -n-1)))
	for range 3 {
		for v := 1; v < n; v++ {
			if !g.Spread() || g.Decide(-v) != api.OK {
				t.Fatalf("%d can't be decided", -v)
			}
		}
		spreads(t, g, true)
		ends(t, g.Restart(), api.OK)
	}
	for v := 1; v <= n; v++ {
		if !g.Spread() || g.Decide(-v) != api.OK {
			t.Fatalf("%d can't be decided", -v)
		}
	}
	spreads(t, g, false)
	learns(t, g, append(c(n), long[:n-1]...), n-1)
	spreads(t, g, true)
	ends(t, g.Forget(0), api.ErrLocked)
	ends(t, g.Restart(), api.OK)
	spreads(t, g, true)
	ends(t, g.Forget(0), api.OK)
}

// Any argument: many clashes of few entries among very many: what a clash costs is not all that is true.
func TestSmallClashesAmongMany(t *testing.T) {
	const n, more = 2000, 200000
	f := form(2*n + more)
	for v := 1; v <= n; v++ {
		f.Clauses = append(f.Clauses, c(-v, -n-v, -2*n-1), c(-v, n+v, -2*n-1))
	}
	for v := 2*n + 1; v < 2*n+more; v++ {
		f.Clauses = append(f.Clauses, c(-v, v+1))
	}
	g := made(t, f)
	down(t, g, 2*n+1)
	spreads(t, g, true)
	for v := 1; v <= n; v++ {
		ends(t, g.Decide(v), api.OK)
		spreads(t, g, false)
		learns(t, g, c(-v, -2*n-1), 1)
		spreads(t, g, true)
	}
	if got := len(g.Learnts()); got != n {
		t.Errorf("%d learnts", got)
	}
}

// learnOf learns, of both, that 1 and 2 can't be together.
func learnOf(t *testing.T, g *engine.Engine) {
	t.Helper()
	down(t, g, 1, 2)
	spreads(t, g, false)
	learns(t, g, c(-2, -1), 1)
	ends(t, g.Restart(), api.OK)
	spreads(t, g, true)
}

// P16.6, P16.8: what is forgotten makes room, and what stays is found as it was, however often that happens.
func TestForgetOften(t *testing.T) {
	g := made(t, form(9, slices.Concat(both().Clauses, four(-9, 5, 6))...))
	for range 300 {
		learnOf(t, g)
		ends(t, g.Forget(0), api.OK)
	}
	settle(t, g, -9, 5)
	for range 300 {
		learnOf(t, g)
		keeps(t, g, c(-5, -9), c(-9), c(-2, -1))
		down(t, g, 1)
		spreads(t, g, true)
		enters(t, g, at(-9, 0, -9), at(1, 1), at(-2, 1, -2, -1))
		ends(t, g.Forget(2), api.ErrLocked)
		ends(t, g.Restart(), api.OK)
		spreads(t, g, true)
		ends(t, g.Forget(2), api.OK)
		down(t, g, 1)
		spreads(t, g, true)
		enters(t, g, at(-9, 0, -9), at(1, 1))
		ends(t, g.Restart(), api.OK)
	}
	spreads(t, g, true)
	ends(t, g.Forget(0), api.OK)
	keeps(t, g, c(-9))
}

// pigeons: one more than holes, of which each wants one for itself.
func pigeons(holes int) api.Formula {
	in := func(p, h int) int { return holes*p + h + 1 }
	f := form(holes * (holes + 1))
	for p := range holes + 1 {
		var some []int
		for h := range holes {
			some = append(some, in(p, h))
			for q := range p {
				f.Clauses = append(f.Clauses, c(-in(p, h), -in(q, h)))
			}
		}
		f.Clauses = append(f.Clauses, some)
	}
	return f
}

// P16.10, P2: a search of many clashes with restarts, in which much of what is learnt is forgotten again, and its proof.
func TestLongSearch(t *testing.T) {
	f := pigeons(7)
	g := made(t, f)
	next, more := 100, 100
	for clashes := 0; !g.Dead(); {
		if !g.Spread() {
			if _, _, e := g.Learn(); e != api.OK || clashes > 100000 {
				t.Fatalf("Learn: error %d behind %d clashes", e, clashes)
			}
			clashes++
			if clashes == next && !g.Dead() {
				ends(t, g.Restart(), api.OK)
				forgetLong(g, 8)
				more += 50
				next += more
			}
			continue
		}
		for v := 1; g.Decide(v) != api.OK; v++ {
			if v > f.Vars {
				t.Fatal("a model")
			}
		}
	}
	proof := g.Log()
	if drops := len(proof) - 1 - len(g.Learnts()); drops < 1000 {
		t.Errorf("of %d steps %d are drops and what they drop", len(proof), drops)
	}
	if r, e := forward.Check(f, proof); e != api.OK || r != (api.Report{Code: api.Accepted, At: len(proof) - 1}) {
		t.Errorf("Check = %v, %d", r, e)
	}
}

// forgetLong forgets the long ones of what was learnt, from the last on.
func forgetLong(g *engine.Engine, long int) {
	if !g.Spread() {
		return
	}
	learnts := g.Learnts()
	for i := len(learnts) - 1; i >= 0; i-- {
		if len(learnts[i]) > long {
			g.Forget(i)
		}
	}
}
