package engine

import (
	"slices"

	"depot/api"
	"depot/learn"
	"depot/lits"
)

// entries: what is true, level by level, with the clauses that say so.
func (g *Engine) entries(ask asking) []api.Entry {
	out := make([]api.Entry, 0, len(g.row))
	for _, l := range g.row {
		out = append(out, api.Entry{Lit: l, Level: g.levelOf(l), Reason: g.reason(l, ask)})
	}
	return out
}

// reason: the clause by which a literal came in; none of a decision.
func (g *Engine) reason(l int, ask asking) []int {
	number := g.trail.Reason(lits.Var(l))
	if number < 0 {
		return nil
	}
	return g.clauses.clause(int32(number), ask)
}

// lesson: what the clash teaches: a clause, shrunk, and the level to go back to.
func (g *Engine) lesson(ask asking) (clause []int, back int) {
	conflict := g.above(g.clauses.clause(g.wrong, ask))
	part, levels := g.leading(conflict, ask)
	clause, back, _ = learn.Learn(part, conflict)
	clause, _ = learn.Shrink(part, clause)
	if back > 0 {
		back = levels[back-1]
	}
	return clause, back
}

// leading: the entries that led to a clause's being false, without those of level 0; and which levels they are of. They are a trail by themselves, with its levels numbered anew, and teach what all entries would; these may be far more.
func (g *Engine) leading(conflict []int, ask asking) (part []api.Entry, levels []int) {
	marks := map[int]struct{}{}
	// A reason's own literal is marked already; all others of these lists are false.
	take := func(c []int) {
		for _, l := range c {
			if _, twice := marks[lits.Var(l)]; !twice {
				marks[lits.Var(l)] = struct{}{}
				part = append(part, api.Entry{Lit: -l})
			}
		}
	}
	take(conflict)
	for k := 0; k < len(part); k++ {
		part[k].Reason = g.above(g.reason(part[k].Lit, ask))
		take(part[k].Reason)
	}
	slices.SortFunc(part, func(a, b api.Entry) int { return g.place(a.Lit) - g.place(b.Lit) })
	for k, x := range part {
		// What is implied on a level is so by the level's decision, in the end, so that this one is there, ahead of it.
		if len(x.Reason) == 0 {
			levels = append(levels, g.levelOf(x.Lit))
		}
		part[k].Level = len(levels)
	}
	return part, levels
}

// above: of a list that may be written into, the literals that aren't of level 0.
func (g *Engine) above(c []int) []int {
	return slices.DeleteFunc(c, func(l int) bool { return g.levelOf(l) == 0 })
}

// locked: is a learnt, at rest, an entry's reason, or does level 0 hold a literal of it and the opposites of all others?
func (g *Engine) locked(c []int, ask asking) bool {
	_, l := g.trail.Look(c)
	free := func(x int) bool { return x != l && g.trail.Value(x) != -1 }
	if slices.ContainsFunc(c, free) {
		return false
	}
	late := func(x int) bool { return g.levelOf(x) > 0 }
	return !slices.ContainsFunc(c, late) || lits.Same(g.reason(l, ask), c)
}
