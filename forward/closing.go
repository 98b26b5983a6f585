package forward

import (
	"depot/api"
	"depot/lits"
)

// closing is the closing, from no facts, of clauses that come and go. It is led on from where it is each time a clause comes in: to close all of them anew at each step of a proof would take too long. What is true stays so, for a clause that is needed for it doesn't go.
type closing struct {
	clash   bool     // if it is one it stays one, and nothing else is kept
	clauses []clause // by their numbers, from 1 on
	unused  []int32  // the numbers of clauses that are gone
	links   []link   // of the clause with the number n those at 2 n and 2 n + 1
	first   []int32  // by a literal's Index: the first link of those that watch it
	holds   []bool   // by a literal's Index: is it true?
	row     []int    // the literals that are true, in the order in which they became so
	told    int      // of so many of them the clauses know that watch their opposites
}

// clause is a clause's literals, each once. If it has two or more, the first two are watched: it can become unit or false only by one of these two becoming false.
type clause struct {
	literals []int
	from     int // where the search for another literal to watch goes on
}

// link is a place in the list of those that watch a literal: the link behind it, and the one ahead.
type link struct {
	next, last int32
}

// nobody is the number of no clause, and of no link.
const nobody = 0

// begin: the closing of no clauses.
func begin() closing {
	return closing{clauses: make([]clause, 1), links: make([]link, 2)}
}

// enter makes a tidy list, which is the closing's own from now on, one of its clauses, and answers its number.
func (w *closing) enter(c []int) int32 {
	if w.clash {
		return nobody
	}
	w.makeRoom(c)
	possible := w.bringForward(c)
	number := w.keep(c)
	if possible == 1 {
		w.know(c[0])
	}
	if possible == 0 || !w.tell() {
		*w = closing{clash: true}
		return nobody
	}
	return number
}

// makeRoom sees to it that all literals of a clause have their places. Room for all variables would be far more than clauses over a few of them need.
func (w *closing) makeRoom(c []int) {
	for _, l := range c {
		if short := 2*lits.Var(l) - len(w.holds); short > 0 {
			w.holds = append(w.holds, make([]bool, short)...)
			w.first = append(w.first, make([]int32, short)...)
		}
	}
}

// bringForward brings two literals that aren't false to a clause's beginning, or as many as there are, and answers how many.
func (w *closing) bringForward(c []int) int {
	n := 0
	for k, l := range c {
		if n < 2 && !w.isFalse(l) {
			c[n], c[k] = c[k], c[n]
			n++
		}
	}
	return n
}

// keep gives a clause a number, and lets it watch.
func (w *closing) keep(c []int) int32 {
	number := int32(len(w.clauses))
	if k := len(w.unused) - 1; k >= 0 {
		number, w.unused = w.unused[k], w.unused[:k]
	} else {
		w.clauses = append(w.clauses, clause{})
		w.links = append(w.links, link{}, link{})
	}
	w.clauses[number].literals = c
	if len(c) > 1 {
		w.enlist(2 * number)
		w.enlist(2*number + 1)
	}
	return number
}

// leave takes out a clause that isn't needed, so that it has two literals at least.
func (w *closing) leave(number int32) {
	w.strike(2 * number)
	w.strike(2*number + 1)
	w.clauses[number] = clause{}
	w.unused = append(w.unused, number)
}

// enlist puts a link to the head of its literal's list.
func (w *closing) enlist(at int32) {
	first := &w.first[lits.Index(w.watched(at))]
	w.links[at] = link{next: *first}
	if *first != nobody {
		w.links[*first].last = at
	}
	*first = at
}

// strike takes a link out of its literal's list.
func (w *closing) strike(at int32) {
	k := w.links[at]
	if k.next != nobody {
		w.links[k.next].last = k.last
	}
	if k.last != nobody {
		w.links[k.last].next = k.next
	} else {
		w.first[lits.Index(w.watched(at))] = k.next
	}
}

// watched: the literal that is watched by a link.
func (w *closing) watched(at int32) int {
	return w.clauses[at/2].literals[at%2]
}

// needs: is one of the clauses, whose literals stand in a tidy list, one by which something is known? In a clash each may be; else it is, if one of its literals is true and all others are false.
func (w *closing) needs(c []int) bool {
	if w.clash {
		return true
	}
	no := 0
	for _, l := range c {
		if w.isFalse(l) {
			no++
		}
	}
	// Where all but one are false, the closing has made that one true.
	return no == len(c)-1
}

// follows: is the closing from the opposites of a clause's literals a clash? Afterwards it is as it was.
func (w *closing) follows(c []int) bool {
	if w.clash || lits.Taut(c) {
		return true
	}
	rest := len(w.row)
	for _, l := range c {
		// What is above all clauses can be in no clause's way.
		if lits.Index(l) >= len(w.holds) {
			continue
		}
		if w.isTrue(l) {
			w.back(rest)
			return true
		}
		w.know(-l)
	}
	clash := !w.tell()
	w.back(rest)
	return clash
}

// formula: the clauses, each once, for those who only read them. It isn't asked for in a clash, so none of the clauses is empty.
func (w *closing) formula() api.Formula {
	f := api.Formula{Vars: api.MaxVar}
	for _, c := range w.clauses {
		if len(c.literals) > 0 {
			f.Clauses = append(f.Clauses, c.literals)
		}
	}
	return f
}

// isTrue: is a literal of the clauses' variables true?
func (w *closing) isTrue(l int) bool {
	return w.holds[lits.Index(l)]
}

// isFalse: is its opposite true?
func (w *closing) isFalse(l int) bool {
	return w.holds[lits.Index(-l)]
}

// know makes a literal that isn't false true.
func (w *closing) know(l int) {
	if !w.isTrue(l) {
		w.holds[lits.Index(l)] = true
		w.row = append(w.row, l)
	}
}

// back takes back what has become true since so many literals were.
func (w *closing) back(rest int) {
	for _, l := range w.row[rest:] {
		w.holds[lits.Index(l)] = false
	}
	w.row, w.told = w.row[:rest], rest
}

// tell tells the clauses which literals that they watch have become false, until nothing more is found; false, if a clause is false.
func (w *closing) tell() bool {
	for ; w.told < len(w.row); w.told++ {
		at := w.first[lits.Index(-w.row[w.told])]
		for at != nobody {
			// The link may go to another list when it hears of it.
			next := w.links[at].next
			if !w.hear(at) {
				return false
			}
			at = next
		}
	}
	return true
}

// hear tells a clause that a literal that it watches is false: it watches another one in its stead, if it needs one and has it. It answers false, if all of the clause's literals are false; where all but one are, that one is true from now on.
func (w *closing) hear(at int32) bool {
	c := &w.clauses[at/2]
	other := c.literals[1-at%2]
	if w.isTrue(other) {
		return true
	}
	if place := w.elsewhere(c); place > 0 {
		w.strike(at)
		c.literals[at%2], c.literals[place] = c.literals[place], c.literals[at%2]
		w.enlist(at)
		return true
	}
	if w.isFalse(other) {
		return false
	}
	w.know(other)
	return true
}

// elsewhere: the place of a literal that isn't watched and isn't false; 0, if there is none.
func (w *closing) elsewhere(c *clause) int {
	n := len(c.literals) - 2
	// The search goes on where it ended last: from the beginning each time, a long clause would take too long.
	for k := range n {
		k = (c.from + k) % n
		if !w.isFalse(c.literals[2+k]) {
			c.from = k
			return 2 + k
		}
	}
	return 0
}
