package learn

import "depot/lits"

// marked holds literals that are false, by their places, as a set.
type marked map[int]struct{}

// resolved: the conflict, resolved with reasons from the last place on, till one literal of that level is left.
func (r reading) resolved(conflict []int, level int) marked {
	set, left := marked{}, 0
	put := func(x int) {
		place := r.place(x)
		if _, twice := set[place]; twice {
			return
		}
		set[place] = struct{}{}
		if r.trail[place].Level == level {
			left++
		}
	}
	for _, x := range conflict {
		put(x)
	}
	// What a reason puts in stands ahead of it: no place is come to twice.
	for place := len(r.trail) - 1; left > 1; place-- {
		if _, ok := set[place]; !ok {
			continue
		}
		delete(set, place)
		left--
		for _, x := range r.trail[place].Reason {
			if x != r.trail[place].Lit {
				put(x)
			}
		}
	}
	return set
}

// parted: the one literal of that level first, behind it the others that aren't of level 0, and their greatest level.
func (r reading) parted(set marked, level int) (clause []int, back int) {
	var others []int
	for place := range set {
		x := -r.trail[place].Lit
		switch r.trail[place].Level {
		case 0:
		case level:
			clause = []int{x}
		default:
			others = append(others, x)
		}
	}
	// A map has no order of its own to be told.
	return append(clause, lits.Tidy(others)...), r.top(others)
}
