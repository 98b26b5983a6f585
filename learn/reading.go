package learn

import (
	"depot/api"
	"depot/lits"
)

// reading is a trail that is well shaped, and the place of each variable's entry in it.
type reading struct {
	trail  []api.Entry
	places map[int]int
}

// read: not ok, if the trail isn't well shaped.
func read(t []api.Entry) (r reading, ok bool) {
	// No trail with more entries than variables is well shaped, so that more room is never needed.
	r = reading{t, make(map[int]int, min(len(t), api.MaxVar))}
	level := 0
	for place, x := range t {
		if !r.fits(x, level) {
			return reading{}, false
		}
		r.places[lits.Var(x.Lit)] = place
		level = x.Level
	}
	return r, true
}

// readUnder: besides, the clause is to be sound and false.
func readUnder(t []api.Entry, clause []int) (reading, api.Errno) {
	r, ok := read(t)
	if !ok || !lits.Sound(clause) {
		return reading{}, api.ErrShape
	}
	for _, x := range clause {
		if !r.isFalse(x) {
			return reading{}, api.ErrRange
		}
	}
	return r, api.OK
}

// fits: may the entry stand behind those that have been read, the last of them on that level? Ahead of the first one it is as if level 0 had begun.
func (r reading) fits(x api.Entry, level int) bool {
	if !lits.Formed(x.Lit) {
		return false
	}
	if _, twice := r.places[lits.Var(x.Lit)]; twice {
		return false
	}
	if x.Level != level && x.Level != level+1 {
		return false
	}
	decided, begins := len(x.Reason) == 0, x.Level > level
	if x.Level > 0 && decided != begins {
		return false
	}
	return decided || r.implies(x)
}

// implies: does the entry's reason leave nothing but its literal to be true? What is no literal is never false, so that the reason is sound, too.
func (r reading) implies(x api.Entry) bool {
	if !lits.Has(x.Reason, x.Lit) {
		return false
	}
	for _, y := range x.Reason {
		if y != x.Lit && !r.isFalse(y) {
			return false
		}
	}
	return true
}

// isFalse: is the literal's opposite that of an entry?
func (r reading) isFalse(x int) bool {
	place, ok := r.places[lits.Var(x)]
	return ok && r.trail[place].Lit == -x
}

// place: of a literal that is false.
func (r reading) place(x int) int { return r.places[lits.Var(x)] }

// level: likewise.
func (r reading) level(x int) int { return r.trail[r.place(x)].Level }

// top: the greatest level of literals that are false; 0, if there are none.
func (r reading) top(clause []int) int {
	top := 0
	for _, x := range clause {
		top = max(top, r.level(x))
	}
	return top
}
