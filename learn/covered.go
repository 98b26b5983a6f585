package learn

import "slices"

// The marks of entries that have been asked about.
const (
	open    = 1 + iota // the entry's opposite isn't covered
	implied            // it is
)

// nested is how many entries a chain of reasons may have that is gone through by calls within calls.
const nested = 1 << 16

// firsts: where each literal stands first.
func firsts(clause []int) map[int]int {
	first := make(map[int]int, len(clause))
	for k, x := range clause {
		if _, twice := first[x]; !twice {
			first[x] = k
		}
	}
	return first
}

// coverer answers a function that tells, of an entry's place, whether the entry's opposite is covered by a clause that these literals stand in.
func (r reading) coverer(stands map[int]int) func(place int) bool {
	given := func(x int) bool {
		_, ok := stands[x]
		return ok || r.level(x) == 0
	}
	marks := map[int]int{}
	var covered func(place int) bool
	covered = func(place int) bool {
		if marks[place] != 0 {
			return marks[place] == implied
		}
		lit, reason := r.trail[place].Lit, r.trail[place].Reason
		lacks := func(x int) bool { return x != lit && !given(x) && !covered(r.place(x)) }
		marks[place] = implied
		if len(reason) == 0 || slices.ContainsFunc(reason, lacks) {
			marks[place] = open
		}
		return marks[place] == implied
	}
	// In a long trail a chain of reasons would make the calls nest too deep; from the front on all that a reason asks for is known already.
	if len(r.trail) > nested {
		for place := range r.trail {
			covered(place)
		}
	}
	return covered
}
