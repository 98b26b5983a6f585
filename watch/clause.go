package watch

import (
	"math"

	"depot/lits"
)

// clause is a clause's literals, each once, and the places of two of them. A clause is settled, and stands in the lists of those two, once it can become unit or false only by one of the two becoming false: at the present depth, and at each one that an Undo leads back to.
type clause struct {
	literals []int32
	watched  pair
}

// pair is two places in a clause; nowhere, where it has no such place.
type pair [2]int

const nowhere = -1

// high is the height of a literal that isn't false.
const high = math.MaxInt

// take makes a copy of a sound list one more of the clauses, for the next Run to look at.
func (w *Watch) take(c []int) {
	tidy := lits.Tidy(c)
	all := make([]int32, 0, len(tidy))
	for _, l := range tidy {
		all = append(all, int32(lits.Index(l)))
	}
	w.waiting = append(w.waiting, int32(len(w.clauses)))
	w.clauses = append(w.clauses, clause{literals: all})
}

// lookAtWaiting looks at the clauses that wait, up to one that is false: then it answers false, and that one and those behind it wait on.
func (w *Watch) lookAtWaiting() bool {
	for k, number := range w.waiting {
		if !w.look(number) {
			w.waiting = w.waiting[k:]
			return false
		}
	}
	w.waiting = nil
	return true
}

// look asks how a clause stands that isn't settled: false, if each of its literals is false. Where all but one are, that one is known from now on.
func (w *Watch) look(number int32) bool {
	c := &w.clauses[number]
	c.watched = w.highest(c)
	if w.height(c, c.watched[0]) != high {
		return false
	}
	if under := w.height(c, c.watched[1]); under != high {
		one := c.literals[c.watched[0]]
		w.know(one)
		// An Undo that takes this literal back may leave all others false, and nothing would tell the clause: it has to be looked at again then.
		if at := int(w.belongs[one]) - 1; under < at {
			w.depths[at].late = append(w.depths[at].late, number)
			return true
		}
	}
	for _, place := range c.watched {
		w.enlist(c.literals[place], number)
	}
	return true
}

// highest: the places of a clause's two highest literals, the highest first.
func (w *Watch) highest(c *clause) pair {
	out := pair{nowhere, nowhere}
	for place := range c.literals {
		switch h := w.height(c, place); {
		case h > w.height(c, out[0]):
			out = pair{place, out[0]}
		case h > w.height(c, out[1]):
			out[1] = place
		}
	}
	return out
}

// height: how far an Undo has to lead back for the literal at a place not to be false: the depth its opposite belongs to. Where there is no literal it is below all depths.
func (w *Watch) height(c *clause, place int) int {
	if place == nowhere {
		return -1
	}
	i := c.literals[place]
	if !w.isFalse(i) {
		return high
	}
	return int(w.belongs[i^1]) - 1
}

// enlist puts a clause to those that watch a literal.
func (w *Watch) enlist(i, number int32) {
	// Lists for all variables would be far more memory than clauses over a few of them need.
	if short := int(i) + 1 - len(w.lists); short > 0 {
		w.lists = append(w.lists, make([][]int32, short)...)
	}
	w.lists[i] = append(w.lists[i], number)
}

// tell tells settled clauses which of the literals that they watch have become false, until nothing more is found; false, if a clause is false.
func (w *Watch) tell() bool {
	var told []int32 // one memory for all lists, each in its turn
	for w.gone < len(w.row) {
		i := w.row[w.gone] ^ 1
		w.gone++
		if int(i) >= len(w.lists) {
			continue
		}
		told = append(told[:0], w.lists[i]...)
		clear(w.lists[i])
		w.lists[i] = w.lists[i][:0]
		for k, number := range told {
			if !w.hear(number, i) {
				w.lists[i] = append(w.lists[i], told[k+1:]...)
				return false
			}
		}
	}
	return true
}

// hear tells a clause that a literal that it watches is false, and puts it into the list of another one, or back into that one's. It answers false, if all of the clause's literals are false; where all but one are, that one is known from now on.
func (w *Watch) hear(number, i int32) bool {
	c := &w.clauses[number]
	if c.literals[c.watched[0]] == i {
		c.watched = pair{c.watched[1], c.watched[0]}
	}
	before := c.watched
	c.watched = w.elsewhere(c)
	w.enlist(c.literals[c.watched[1]], number)
	if c.watched != before {
		return true
	}
	other := c.literals[before[0]]
	if w.isFalse(other) {
		return false
	}
	w.know(other)
	return true
}

// elsewhere: what a clause watches when the second literal that it watches is false: another one that isn't false in its stead, if the clause needs one and has it.
func (w *Watch) elsewhere(c *clause) pair {
	first, second := c.watched[0], c.watched[1]
	if w.isTrue(c.literals[first]) {
		return c.watched
	}
	// The search goes on where it ended last: from the beginning each time, a long clause would take too long.
	for k := range c.literals {
		place := (second + k) % len(c.literals)
		if place != first && !w.isFalse(c.literals[place]) {
			return pair{first, place}
		}
	}
	return c.watched
}
