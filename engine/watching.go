package engine

import (
	"depot/lits"
	"depot/trail"
)

// watching finds the clauses that become unit or false as literals come in. Each literal that comes in is told to the clauses ahead of the next one, so that a clause is found as soon as it is false.
type watching struct {
	trail   *trail.Trail
	clauses []watcher // by number
	links   []link    // of the clause with the number n those at 2 n and 2 n + 1
	first   []int32   // by a literal's Index: the first link of those that watch it
	found   []cause   // what clauses that are unit say, in the order in which they were found
	taken   int       // so many of these are done with
	empty   int32     // a clause without literals: it is false whatever comes in
}

// watcher is a clause's literals, each once. The first two are watched, or the only one: the clause can become unit or false only by one of these becoming false. At rest, where one of the two is false, the other one is true and came in on the same level or ahead of it, so that no way back makes that one open and leaves this one false.
type watcher struct {
	literals []int
	from     int // where the search for another literal to watch goes on
}

// link is a place in the list of those that watch a literal: the link behind it, and the one ahead.
type link struct {
	next, last int32
}

// cause is a literal that has to be true, and the number of the clause that says so.
type cause struct {
	lit    int
	number int32
}

// watchingUnder: no clauses over so many variables, whose values the trail has.
func watchingUnder(values *trail.Trail, vars int) watching {
	return watching{
		trail:   values,
		clauses: make([]watcher, 1),
		links:   make([]link, 2),
		first:   make([]int32, 2*vars),
	}
}

// enter lets a clause watch its first two literals. The list, each literal in it once, is the watching's own from now on.
func (w *watching) enter(number int32, c []int) {
	if int(number) == len(w.clauses) {
		w.clauses = append(w.clauses, watcher{})
		w.links = append(w.links, link{}, link{})
	}
	w.clauses[number].literals = c
	for k := range min(len(c), 2) {
		w.enlist(2*number + int32(k))
	}
	switch len(c) {
	case 0:
		w.empty = number
	case 1:
		w.found = append(w.found, cause{c[0], number})
	}
}

// leave takes a clause of two or more literals out.
func (w *watching) leave(number int32) {
	w.strike(2 * number)
	w.strike(2*number + 1)
	w.clauses[number] = watcher{}
}

// enlist puts a link to the head of its literal's list.
func (w *watching) enlist(at int32) {
	first := &w.first[lits.Index(w.watched(at))]
	w.links[at] = link{next: *first}
	if *first != nobody {
		w.links[*first].last = at
	}
	*first = at
}

// strike takes a link out of its literal's list.
func (w *watching) strike(at int32) {
	k := w.links[at]
	if k.next != nobody {
		w.links[k.next].last = k.last
	}
	if k.last != nobody {
		w.links[k.last].next = k.next
	} else {
		w.first[lits.Index(w.watched(at))] = k.next
	}
}

// watched: the literal that is watched by a link.
func (w *watching) watched(at int32) int {
	return w.clauses[at/2].literals[at%2]
}

// tell tells the clauses that watch its opposite that a literal has come in: the number of one that is false now, nobody, if none is.
func (w *watching) tell(l int) int32 {
	at := w.first[lits.Index(-l)]
	for at != nobody {
		// The link may go to another list when it hears of it.
		next := w.links[at].next
		if !w.hear(at) {
			return at / 2
		}
		at = next
	}
	return nobody
}

// next: a literal that has to be true and is open, and the clause that says so; false, if there is none.
func (w *watching) next() (cause, bool) {
	for w.taken < len(w.found) {
		c := w.found[w.taken]
		w.taken++
		if w.trail.Value(c.lit) == 0 {
			return c, true
		}
	}
	return cause{}, false
}

// rest forgets what was found.
func (w *watching) rest() {
	w.found, w.taken = w.found[:0], 0
}

// hear tells a clause that a literal that it watches is false: it watches another one in its stead, if it needs one and has it. It answers false, if all of the clause's literals are false; where all but one are, it is found to be unit.
func (w *watching) hear(at int32) bool {
	c := &w.clauses[at/2]
	if len(c.literals) == 1 {
		return false
	}
	other := c.literals[1-at%2]
	if w.trail.Value(other) == 1 {
		return true
	}
	if place := w.elsewhere(c); place > 0 {
		w.strike(at)
		c.literals[at%2], c.literals[place] = c.literals[place], c.literals[at%2]
		w.enlist(at)
		return true
	}
	if w.trail.Value(other) == -1 {
		return false
	}
	w.found = append(w.found, cause{other, at / 2})
	return true
}

// elsewhere: the place of a literal that isn't watched and isn't false; 0, if there is none.
func (w *watching) elsewhere(c *watcher) int {
	n := len(c.literals) - 2
	// The search goes on where it ended last: from the beginning each time, a long clause would take too long.
	for k := range n {
		k = (c.from + k) % n
		if w.trail.Value(c.literals[2+k]) != -1 {
			c.from = k
			return 2 + k
		}
	}
	return 0
}
