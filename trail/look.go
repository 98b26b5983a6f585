package trail

import "depot/lits"

// Look: how a clause stands: 1 true, -1 false, 2 unit, 0 none of these; and the literal that says so.
func (t *Trail) Look(c []int) (int8, int) {
	if !t.fits(c) {
		return 0, 0
	}
	open, more := 0, false
	for _, l := range c {
		switch t.Value(l) {
		case 1:
			return 1, l
		case 0:
			// A clause is meant as a set: the same literal once more is no second one.
			more = more || open != 0 && open != l
			open = l
		}
	}
	switch {
	case more:
		return 0, 0
	case open != 0:
		return 2, open
	}
	return -1, 0
}

// fits: is the clause sound, with no variable but the trail's?
func (t *Trail) fits(c []int) bool {
	for _, l := range c {
		if !t.has(lits.Var(l)) {
			return false
		}
	}
	return true
}
