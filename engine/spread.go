package engine

import (
	"slices"

	"depot/lits"
)

// spread lets come in what unit clauses say, each told to the clauses ahead of the next one; it answers the number of a clause that is false, nobody, if there is none.
func (g *Engine) spread() int32 {
	// What is found behind a clash is of the level that goes with it.
	defer g.watches.rest()
	if g.watches.empty != nobody {
		return g.watches.empty
	}
	for {
		for ; g.told < len(g.row); g.told++ {
			if wrong := g.watches.tell(g.row[g.told]); wrong != nobody {
				return wrong
			}
		}
		found, ok := g.watches.next()
		if !ok {
			return nobody
		}
		g.imply(found.lit, found.number)
	}
}

// imply lets an open literal come in on the present level.
func (g *Engine) imply(l int, reason int32) {
	g.trail.Imply(l, int(reason))
	g.lay(l)
}

// lay notes a literal that has come in.
func (g *Engine) lay(l int) {
	g.places[lits.Var(l)-1] = len(g.row)
	g.row = append(g.row, l)
}

// goBack takes the entries of levels above one away.
func (g *Engine) goBack(level int) {
	gone, _ := g.trail.Back(level)
	g.row = g.row[:len(g.row)-len(gone)]
	g.told = min(g.told, len(g.row))
}

// keep makes a clause the last one of the learnts whose first literal is open and whose others are false, and lets that one come in.
func (g *Engine) keep(c []int) {
	number := g.clauses.put(c, true)
	g.learnts = append(g.learnts, number)
	g.watches.enter(number, g.latestAhead(c))
	g.imply(c[0], number)
}

// latestAhead: the clause with that one of its others at the second place that is of the greatest level. It is the first one to become open again.
func (g *Engine) latestAhead(c []int) []int {
	out := slices.Clone(c)
	for k := 2; k < len(out); k++ {
		if g.levelOf(out[k]) > g.levelOf(out[1]) {
			out[1], out[k] = out[k], out[1]
		}
	}
	return out
}

// place: where in the row a literal or its opposite stands.
func (g *Engine) place(l int) int { return g.places[lits.Var(l)-1] }

// levelOf: the level on which a literal or its opposite came in.
func (g *Engine) levelOf(l int) int { return g.trail.LevelOf(lits.Var(l)) }
