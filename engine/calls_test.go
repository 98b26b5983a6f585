package engine_test

import (
	"slices"
	"testing"

	"depot/api"
	"depot/engine"
)

// P16.2: one that comes to rest: what follows comes in on the present level, behind what there is, and nothing is left to come.
func TestSpreadRests(t *testing.T) {
	g := made(t, form(7, c(-1, 2), c(-2, 3), c(-3, -4, 5, -3), c(6, 6), c(-6, -1, -7), c(7, -7, 1)))
	spreads(t, g, true)
	enters(t, g, at(6, 0, 6))
	ends(t, g.Decide(4), api.OK)
	spreads(t, g, true)
	enters(t, g, at(6, 0, 6), at(4, 1))
	ends(t, g.Decide(1), api.OK)
	spreads(t, g, true)
	got := g.Entries()
	if len(got) != 7 || !slices.EqualFunc(got[:3], []api.Entry{at(6, 0, 6, 6), at(4, 1), at(1, 2)}, sameEntry) {
		t.Fatalf("Entries = %v", got)
	}
	for _, x := range got[3:] {
		if x.Level != 2 || len(x.Reason) == 0 || !slices.Contains(c(2, 3, 5, -7), x.Lit) {
			t.Errorf("%v came in", x)
		}
	}
	models(t, g, true, true, true, true, true, true, false)
	spreads(t, g, true)
	if !slices.EqualFunc(g.Entries(), got, sameEntry) {
		t.Errorf("Spread at rest: %v, was %v", g.Entries(), got)
	}
}

// P16.2: one that comes to a clash: nothing comes in once a clause is false.
func TestSpreadClashes(t *testing.T) {
	g := made(t, form(3, c(1), c(2), c(), c(3)))
	for range 3 {
		spreads(t, g, false)
		enters(t, g)
	}
	g = made(t, form(3, c(3), c(2), c(-3), c(1)))
	for range 3 {
		spreads(t, g, false)
		got := g.Entries()
		if last := len(got) - 1; last < 0 || got[last].Lit != 3 && got[last].Lit != -3 {
			t.Errorf("Entries = %v", got)
		}
	}
	g = made(t, form(9, c(-1, 2), c(-1, -2), c(-1, 3), c(-3, 4), c(-4, 5)))
	down(t, g, 9, 1)
	for range 3 {
		spreads(t, g, false)
		got := g.Entries()
		if last := got[len(got)-1]; last.Level != 2 || last.Lit != 2 && last.Lit != -2 {
			t.Errorf("Entries = %v", got)
		}
	}
	learns(t, g, c(-1), 0)
}

// P16.2: behind a Restart what came in on level 0 by a Learn is still spread.
func TestSpreadBehindLearnAndRestart(t *testing.T) {
	g := made(t, form(4, c(-1, 2), c(-1, -2), c(1, 3), c(-3, 4)))
	down(t, g, 1)
	spreads(t, g, false)
	learns(t, g, c(-1), 0)
	ends(t, g.Restart(), api.OK)
	enters(t, g, at(-1, 0, -1))
	spreads(t, g, true)
	enters(t, g, at(-1, 0, -1), at(3, 0, 1, 3), at(4, 0, -3, 4))
}

// P16.3: no literal, a variable above Vars: ErrShape goes ahead of ErrTurn, and that of ErrSet.
func TestDecideRefuses(t *testing.T) {
	g := made(t, form(3, c(3)))
	for range 2 {
		for _, l := range append(slices.Clone(far), 4, -4, api.MaxVar, -api.MaxVar) {
			ends(t, g.Decide(l), api.ErrShape)
		}
		g.Spread()
	}
	ends(t, g.Decide(3), api.ErrSet)
	ends(t, g.Decide(-3), api.ErrSet)
	ends(t, g.Decide(-1), api.OK)
	for _, l := range c(1, -1, 2, 3, -3) {
		ends(t, g.Decide(l), api.ErrTurn)
	}
	ends(t, g.Decide(4), api.ErrShape)
	spreads(t, g, true)
	for _, l := range c(1, -1, 3, -3) {
		ends(t, g.Decide(l), api.ErrSet)
	}
	enters(t, g, at(3, 0, 3), at(-1, 1))
}

// P16.3: each Decide is a level of its own.
func TestDecide(t *testing.T) {
	g := made(t, form(4, c(-2, 4)))
	down(t, g, -1, 2, -3)
	spreads(t, g, true)
	enters(t, g, at(-1, 1), at(2, 2), at(4, 2, -2, 4), at(-3, 3))
	models(t, g, false, true, false, true)
	ends(t, g.Restart(), api.OK)
	down(t, g, 3)
	enters(t, g, at(3, 1))
}

// P16.4: a clause with others, one of which follows from the other and is shrunk away; the entries of all levels above go.
func TestLearnShrinks(t *testing.T) {
	g := made(t, form(9, c(9), c(-1, 2), c(-3, -1, -2, 4, -9), c(-3, -1, -2, -4)))
	down(t, g, 5, 1, 6, -7, 3)
	spreads(t, g, false)
	learns(t, g, c(-3, -1), 2)
	enters(t, g, at(9, 0, 9), at(5, 1), at(1, 2), at(2, 2, -1, 2), at(-3, 2, -3, -1))
	keeps(t, g, c(-3, -1))
	logs(t, g, add(-3, -1))
	noModel(t, g)
	isDead(t, g, false)
	spreads(t, g, true)
	ends(t, g.Decide(-3), api.ErrSet)
}

// P16.4: the learnt clause is one of the clauses from then on, on all levels.
func TestLearntSpreads(t *testing.T) {
	g := made(t, both())
	down(t, g, 4, 1, 2)
	spreads(t, g, false)
	learns(t, g, c(-2, -1), 2)
	ends(t, g.Restart(), api.OK)
	enters(t, g)
	down(t, g, 2)
	spreads(t, g, true)
	enters(t, g, at(2, 1), at(-1, 1, -2, -1))
	ends(t, g.Restart(), api.OK)
	down(t, g, -4, 1)
	spreads(t, g, true)
	enters(t, g, at(-4, 1), at(1, 2), at(-2, 2, -2, -1))
}

// P16.4: a clause without others: all levels above 0 go, and it comes in there, behind the others.
func TestLearnAlone(t *testing.T) {
	g := made(t, form(6, c(6), c(-3, 4), c(-3, -4), c(3, -1, 5)))
	down(t, g, 1, 2, 3)
	spreads(t, g, false)
	learns(t, g, c(-3), 0)
	enters(t, g, at(6, 0, 6), at(-3, 0, -3))
	keeps(t, g, c(-3))
	down(t, g, 1)
	spreads(t, g, true)
	enters(t, g, at(6, 0, 6), at(-3, 0, -3), at(1, 1), at(5, 1, 3, -1, 5))
}

// P16.4: where several literals of the level are behind the clash it is resolved back to the one that all ways lead through.
func TestLearnResolves(t *testing.T) {
	g := made(t, form(9, c(-1, 2), c(-2, 3), c(-2, -8, 4), c(-3, -4, 5), c(-3, -4, -9, -5)))
	down(t, g, 9, 8, 1)
	spreads(t, g, false)
	learns(t, g, c(-2, -8, -9), 2)
	enters(t, g, at(9, 1), at(8, 2), at(-2, 2, -2, -8, -9))
	spreads(t, g, true)
	if got := g.Entries(); len(got) != 4 || got[3].Lit != -1 || got[3].Level != 2 {
		t.Errorf("Entries = %v", got)
	}
}

// P16.4: one clash behind the other, down to the empty clause; then nothing but the log and Dead has changed.
func TestLearnDies(t *testing.T) {
	g := made(t, form(3, c(-1, 2, 3), c(-1, 2, -3), c(-1, -2, 3), c(-1, -2, -3), c(1, 2), c(1, -2)))
	down(t, g, 1, 2)
	spreads(t, g, false)
	learns(t, g, c(-2, -1), 1)
	enters(t, g, at(1, 1), at(-2, 1, -2, -1))
	spreads(t, g, false)
	learns(t, g, c(-1), 0)
	enters(t, g, at(-1, 0, -1))
	spreads(t, g, false)
	entries := g.Entries()
	isDead(t, g, false)
	learns(t, g, nil, -1)
	isDead(t, g, true)
	if got := g.Entries(); !slices.EqualFunc(got, entries, sameEntry) || g.Level() != 0 {
		t.Errorf("Entries = %v, were %v", got, entries)
	}
	keeps(t, g, c(-2, -1), c(-1))
	logs(t, g, add(-2, -1), add(-1), add())
	noModel(t, g)
}

// P16.5: at rest on some level, behind a Decide, and twice.
func TestRestart(t *testing.T) {
	g := made(t, form(4, c(4), c(-1, 2)))
	spreads(t, g, true)
	ends(t, g.Restart(), api.OK)
	enters(t, g, at(4, 0, 4))
	ends(t, g.Decide(1), api.ErrTurn)
	down(t, g, 3, 1)
	ends(t, g.Restart(), api.OK)
	enters(t, g, at(4, 0, 4))
	ends(t, g.Restart(), api.OK)
	down(t, g, 3, 1)
	spreads(t, g, true)
	enters(t, g, at(4, 0, 4), at(3, 1), at(1, 2), at(2, 2, -1, 2))
	ends(t, g.Restart(), api.OK)
	enters(t, g, at(4, 0, 4))
	noModel(t, g)
	logs(t, g)
	// Ahead of the first Spread.
	g = made(t, form(2, c(2), c(-2, 1)))
	ends(t, g.Restart(), api.OK)
	spreads(t, g, true)
	enters(t, g, at(2, 0, 2), at(1, 0, -2, 1))
	ends(t, g.Restart(), api.OK)
	enters(t, g, at(2, 0, 2), at(1, 0, -2, 1))
}

// four: the clauses that make a literal true, which is seen only behind a decision over one of two more variables.
func four(l, x, y int) [][]int {
	return [][]int{c(l, x, y), c(l, x, -y), c(l, -x, y), c(l, -x, -y)}
}

// settle learns that literal.
func settle(t *testing.T, g *engine.Engine, l, x int) {
	t.Helper()
	down(t, g, -l, x)
	spreads(t, g, false)
	if _, back, e := g.Learn(); e != api.OK || back != 1 {
		t.Errorf("Learn: %d, %d", back, e)
	}
	spreads(t, g, false)
	learns(t, g, c(l), 0)
	spreads(t, g, true)
}

// P16.6: a learnt whose literals level 0 holds is locked, though another clause is the Reason; the others aren't.
func TestForgetLevelZero(t *testing.T) {
	f := form(9, slices.Concat(both().Clauses, four(-2, 5, 6), four(1, 8, 9))...)
	g := made(t, f)
	down(t, g, 1, 2)
	spreads(t, g, false)
	learns(t, g, c(-2, -1), 1)
	spreads(t, g, true)
	ends(t, g.Forget(0), api.ErrLocked)
	ends(t, g.Restart(), api.OK)
	settle(t, g, -2, 5)
	keeps(t, g, c(-2, -1), c(-5, -2), c(-2))
	ends(t, g.Forget(2), api.ErrLocked)
	settle(t, g, 1, 8)
	enters(t, g, at(-2, 0, -2), at(1, 0, 1))
	keeps(t, g, c(-2, -1), c(-5, -2), c(-2), c(-8, 1), c(1))
	// On a level further up it is no other.
	for _, l := range c(3, -4, 7) {
		ends(t, g.Forget(0), api.ErrLocked)
		ends(t, g.Forget(2), api.ErrLocked)
		ends(t, g.Forget(4), api.ErrLocked)
		ends(t, g.Forget(5), api.ErrRange)
		ends(t, g.Forget(-1), api.ErrRange)
		down(t, g, l)
		spreads(t, g, true)
	}
	ends(t, g.Forget(3), api.OK)
	ends(t, g.Forget(1), api.OK)
	keeps(t, g, c(-2, -1), c(-2), c(1))
	logs(t, g, add(-2, -1), add(-5, -2), add(-2), add(-8, 1), add(1), drop(-8, 1), drop(-5, -2))
}

// P16.6: one literal true and all others false isn't enough on a level above 0, where another one is the Reason, or it is a decision.
func TestForgetFree(t *testing.T) {
	g := made(t, both())
	down(t, g, 1, 2)
	spreads(t, g, false)
	learns(t, g, c(-2, -1), 1)
	ends(t, g.Restart(), api.OK)
	down(t, g, -2, 1, 4)
	spreads(t, g, true)
	entries := g.Entries()
	ends(t, g.Forget(0), api.OK)
	if !slices.EqualFunc(g.Entries(), entries, sameEntry) || g.Level() != 3 {
		t.Errorf("Entries = %v, were %v", g.Entries(), entries)
	}
	keeps(t, g)
	// It is at rest still.
	ends(t, g.Forget(0), api.ErrRange)
	ends(t, g.Decide(3), api.OK)
	spreads(t, g, true)
	models(t, g, true, false, true, true)
	spreads(t, g, true)
	// And what was forgotten says nothing any more.
	ends(t, g.Restart(), api.OK)
	down(t, g, 1)
	spreads(t, g, true)
	enters(t, g, at(1, 1))
	ends(t, g.Decide(2), api.OK)
	spreads(t, g, false)
	learns(t, g, c(-2, -1), 1)
	logs(t, g, add(-2, -1), drop(-2, -1), add(-2, -1))
}

// P16.6: what a Forget leaves: the model is the same, and the numbers go on from the one that went.
func TestForgetKeepsRest(t *testing.T) {
	f := form(9, slices.Concat(four(-2, 5, 6), four(1, 8, 9), four(3, 4, 7))...)
	g := made(t, f)
	settle(t, g, -2, 5)
	settle(t, g, 1, 8)
	settle(t, g, 3, 4)
	keeps(t, g, c(-5, -2), c(-2), c(-8, 1), c(1), c(-4, 3), c(3))
	down(t, g, 4, 5, 6, 7, 8, 9)
	spreads(t, g, true)
	m, _ := g.Model()
	ends(t, g.Forget(0), api.OK)
	keeps(t, g, c(-2), c(-8, 1), c(1), c(-4, 3), c(3))
	models(t, g, m...)
	ends(t, g.Forget(0), api.ErrLocked)
	ends(t, g.Forget(3), api.OK)
	ends(t, g.Forget(1), api.OK)
	keeps(t, g, c(-2), c(1), c(3))
	models(t, g, m...)
	spreads(t, g, true)
	enters(t, g, at(-2, 0, -2), at(1, 0, 1), at(3, 0, 3), at(4, 1), at(5, 2), at(6, 3), at(7, 4), at(8, 5), at(9, 6))
	ends(t, g.Forget(3), api.ErrRange)
}
