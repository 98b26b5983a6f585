package trim

import "slices"

// lessening are clauses of which some are left out: a formula's, and behind them additions that hold over it.
type lessening struct {
	closing
	stands [][]int32 // by literal: the numbers of the clauses in which it stands
	stays  []bool    // by number: is it known that the clause can't be left out?
	uses   [][]use   // by the number of a clause that is to be tried yet: which additions follow by it
	rounds []int32   // by an addition's number: how often it was noted by which clauses it follows
}

// use says that an addition follows by a clause, as long as that round is its last one.
type use struct {
	addition, round int32
}

// support are clauses by which an addition follows.
type support struct {
	addition int32
	by       []int32
}

// lessen: the numbers, rising, of the clauses that stay, if each that can be left out is. The first ones are a formula's, as many as given says, the others additions that hold over it.
//
// One round is enough, from the last clause to the first: one that stays does so for an addition behind it, which stays too, and which won't follow by fewer clauses either.
func lessen(clauses [][]int, given int) []int {
	w := weigh(clauses)
	var stay []int
	k := len(clauses) - 1
	without := func() bool {
		if w.stays[k] {
			return false
		}
		w.clauses[k].away = true
		var anew []support
		for _, u := range w.uses[k] {
			if u.round != w.rounds[u.addition] {
				continue
			}
			s, follows := w.support(u.addition)
			if !follows {
				w.clauses[k].away = false
				w.spread(int32(k), fact)
				w.back(0)
				return false
			}
			anew = append(anew, s)
		}
		for _, s := range anew {
			w.note(s, k)
		}
		return true
	}
keep:
	stay = append(stay, k)
	if k >= given {
		s, _ := w.support(int32(k))
		w.note(s, k)
	}
next:
	if k--; k < 0 {
		slices.Reverse(stay)
		return stay
	}
	if without() {
		goto next
	}
	goto keep
}

// weigh: clauses of which none is left out yet.
func weigh(clauses [][]int) *lessening {
	w := &lessening{stays: make([]bool, len(clauses)), uses: make([][]use, len(clauses)), rounds: make([]int32, len(clauses))}
	for _, c := range clauses {
		coded := w.coded(c)
		number, possible := w.enter(coded)
		if possible < 2 {
			w.short = append(w.short, number)
		}
		if short := len(w.holds) - len(w.stands); short > 0 {
			w.stands = append(w.stands, make([][]int32, short)...)
		}
		for _, l := range coded {
			w.stands[l] = append(w.stands[l], number)
		}
	}
	return w
}

// support: does an addition follow from those ahead of it that haven't been left out, and by which? If it doesn't, the closure stays.
func (w *lessening) support(addition int32) (support, bool) {
	w.end = addition
	number, clash := w.close(w.clauses[addition].literals)
	if !clash {
		return support{}, false
	}
	s := support{addition, w.behind(number)}
	w.back(0)
	return s, true
}

// note notes by which clauses an addition follows, of those below a number: all others have been tried.
func (w *lessening) note(s support, below int) {
	w.rounds[s.addition]++
	for _, n := range s.by {
		if int(n) < below {
			w.uses[n] = append(w.uses[n], use{s.addition, w.rounds[s.addition]})
		}
	}
}

// spread takes a clause without which an addition doesn't follow, while what is true is closed under all others that speak. If one of its literals is made true, and what is true is closed then under all clauses but one, the addition doesn't follow without that one either: and so on from there. The literal whose opposite was made true last stays as it is: it would only lead back.
func (w *lessening) spread(number, last int32) {
	w.stays[number] = true
	for _, l := range w.clauses[number].literals {
		was := w.holds[l^1]
		if l == last || was && w.why[l/2] == fact {
			continue
		}
		w.holds[l], w.holds[l^1] = true, false
		if other := w.hurt(l ^ 1); other != fact && !w.stays[other] {
			w.spread(other, l^1)
		}
		w.holds[l], w.holds[l^1] = false, was
	}
}

// hurt: the number of the one clause, of those in which a literal stands, that is unit or false; fact, if there are more.
func (w *lessening) hurt(l int32) int32 {
	found := int32(fact)
	for _, n := range w.stands[l] {
		if w.speaks(n) && w.tight(w.clauses[n].literals) {
			if found != fact {
				return fact
			}
			found = n
		}
	}
	return found
}

// tight: is a clause unit or false?
func (w *lessening) tight(c []int32) bool {
	open := 0
	for _, l := range c {
		if w.holds[l] {
			return false
		}
		if !w.holds[l^1] {
			if open++; open > 1 {
				return false
			}
		}
	}
	return true
}
