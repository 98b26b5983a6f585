package trim

import "depot/lits"

// closing is the closing of clauses that come in one behind the other, from facts that are put to it and taken back. Of each literal that is true it knows by which clause. A literal stands here as its code: the variables that come in are counted from 0 on, and of the variable with the count k the codes are 2 k and, of its opposite, 2 k + 1. So l ^ 1 is the opposite of l, and clauses over a few variables need room for these alone.
type closing struct {
	counts  []int32   // by variable: its count and 1; 0, if it hasn't come in
	clauses []clause  // by their numbers, from 0 on
	short   []int32   // the numbers of clauses with which each closing begins
	watched [][]int32 // by literal: the numbers of the clauses that watch it
	holds   []bool    // by literal: is it true?
	why     []int32   // by a variable's count, if it has a value: the number of the clause that was unit on it, or fact
	row     []int32   // the literals that are true, in the order in which they became so
	told    int       // of so many of them the clauses know that watch their opposites
	end     int32     // the number from which on clauses say nothing
}

// clause is a clause's literals, each once. If it has two or more, the first two are watched: it can become unit or false only by one of these two becoming false.
type clause struct {
	literals []int32
	from     int  // where the search for another literal to watch goes on
	away     bool // it says nothing
	settled  bool // what it made true stays so, and nobody looks for the clauses behind it
	met      bool // on the way back from a clash
}

// fact stands for a clause where something is true without one.
const fact = -1

// coded: a clause's literals as their codes, each once.
func (w *closing) coded(c []int) []int32 {
	out := make([]int32, 0, len(c))
	for _, l := range lits.Tidy(c) {
		code := 2 * w.count(lits.Var(l))
		if l < 0 {
			code++
		}
		out = append(out, code)
	}
	return out
}

// count: a variable's count; if it hasn't come in yet, it does so now.
func (w *closing) count(v int) int32 {
	if short := v + 1 - len(w.counts); short > 0 {
		w.counts = append(w.counts, make([]int32, short)...)
	}
	if w.counts[v] == 0 {
		w.holds, w.watched, w.why = append(w.holds, false, false), append(w.watched, nil, nil), append(w.why, fact)
		w.counts[v] = int32(len(w.why))
	}
	return w.counts[v] - 1
}

// enter makes a coded list, which is the closing's own from now on, the clause of the next number. It answers that, and how many of its literals can be true: none, one, or more, which it tells as two.
func (w *closing) enter(c []int32) (number int32, possible int) {
	possible = w.bringForward(c)
	number = int32(len(w.clauses))
	w.clauses = append(w.clauses, clause{literals: c})
	w.end = number + 1
	if len(c) > 1 {
		w.watch(c[0], number)
		w.watch(c[1], number)
	}
	return number, possible
}

// bringForward brings two literals that aren't false to a clause's beginning, or as many as there are, and answers how many.
func (w *closing) bringForward(c []int32) int {
	n := 0
	for k, l := range c {
		if n < 2 && !w.holds[l^1] {
			c[n], c[k] = c[k], c[n]
			n++
		}
	}
	return n
}

// watch lets a clause watch a literal.
func (w *closing) watch(l, number int32) {
	w.watched[l] = append(w.watched[l], number)
}

// follows: is the closing from the opposites of a clause's literals a clash, and by which clauses? Afterwards it is as it was.
func (w *closing) follows(c []int32) (by []int32, yes bool) {
	rest := len(w.row)
	number, yes := w.close(c)
	if yes {
		by = w.behind(number)
	}
	w.back(rest)
	return by, yes
}

// close leads the closing on from the opposites of a clause's literals. If it is a clash it answers true, and the number of a clause that is false; or fact, if one of the literals is true already, or stands beside its opposite. (Nobody will ask by which clauses such a one follows: as long as that is so, nothing follows by it.)
func (w *closing) close(c []int32) (number int32, clash bool) {
	if w.deny(c) {
		return fact, true
	}
	if number, clash = w.begin(); clash {
		return number, true
	}
	return w.tell()
}

// deny makes a clause's literals false. It answers true where one of them is true.
func (w *closing) deny(c []int32) bool {
	for _, l := range c {
		if w.holds[l] {
			return true
		}
		w.know(l^1, fact)
	}
	return false
}

// begin takes the short clauses that say something. Where one of them is false it answers true, and its number.
func (w *closing) begin() (number int32, clash bool) {
	for _, n := range w.short {
		c := w.clauses[n].literals
		switch {
		case !w.speaks(n):
		case len(c) == 0 || w.holds[c[0]^1]:
			return n, true
		default:
			w.know(c[0], n)
		}
	}
	return fact, false
}

// tell tells the clauses which literals that they watch have become false, until nothing more is found, or one of them is false: then it answers true, and its number.
func (w *closing) tell() (number int32, clash bool) {
	for ; w.told < len(w.row); w.told++ {
		if number, clash = w.inform(w.row[w.told] ^ 1); clash {
			return number, true
		}
	}
	return fact, false
}

// inform tells the clauses that watch a literal that it is false; like tell.
func (w *closing) inform(l int32) (number int32, clash bool) {
	list := w.watched[l]
	stay := 0
	for k, n := range list {
		heard := stays
		if w.speaks(n) {
			heard = w.hear(n, l)
		}
		if heard == moves {
			continue
		}
		list[stay] = n
		stay++
		if heard == clashes {
			stay += copy(list[stay:], list[k+1:])
			w.watched[l] = list[:stay]
			return n, true
		}
	}
	w.watched[l] = list[:stay]
	return fact, false
}

// What a clause does when it hears that a literal that it watches is false.
const (
	stays   = 1
	moves   = 2 // it watches another one in its stead
	clashes = 3 // it is false
)

// hear tells a clause that a literal that it watches is false. Where all but one of its literals are false, that one is true from now on.
func (w *closing) hear(number, l int32) int {
	c := &w.clauses[number]
	if c.literals[0] == l {
		c.literals[0], c.literals[1] = c.literals[1], c.literals[0]
	}
	other := c.literals[0]
	if w.holds[other] {
		return stays
	}
	if place := w.elsewhere(c); place > 0 {
		c.literals[1], c.literals[place] = c.literals[place], c.literals[1]
		w.watch(c.literals[1], number)
		return moves
	}
	if w.holds[other^1] {
		return clashes
	}
	w.know(other, number)
	return stays
}

// elsewhere: the place of a literal that isn't watched and isn't false; 0, if there is none.
func (w *closing) elsewhere(c *clause) int {
	n := len(c.literals) - 2
	// The search goes on where it ended last: from the beginning each time, a long clause would take too long.
	for k := range n {
		k += c.from
		if k >= n {
			k -= n
		}
		if !w.holds[c.literals[2+k]^1] {
			c.from = k
			return 2 + k
		}
	}
	return 0
}

// speaks: does a clause say something?
func (w *closing) speaks(number int32) bool {
	return number < w.end && !w.clauses[number].away
}

// know makes a literal that isn't false true, by a clause.
func (w *closing) know(l, number int32) {
	if !w.holds[l] {
		w.holds[l] = true
		w.why[l/2] = number
		w.row = append(w.row, l)
	}
}

// back takes back what has become true since so many literals were.
func (w *closing) back(rest int) {
	for _, l := range w.row[rest:] {
		w.holds[l] = false
	}
	w.row, w.told = w.row[:rest], rest
}

// behind: the numbers of the clauses by which a clause is false, it among them, each once. Behind those that are settled it doesn't look.
func (w *closing) behind(number int32) []int32 {
	var out []int32
	meet := func(n int32) {
		if n != fact && !w.clauses[n].met {
			w.clauses[n].met = true
			out = append(out, n)
		}
	}
	meet(number)
	for k := 0; k < len(out); k++ {
		if c := w.clauses[out[k]]; !c.settled {
			for _, l := range c.literals {
				meet(w.why[l/2])
			}
		}
	}
	for _, n := range out {
		w.clauses[n].met = false
	}
	return out
}
