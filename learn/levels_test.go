package learn_test

import (
	"testing"

	"depot/api"
	"depot/learn"
)

// counts: Levels answers that number.
func counts(t *testing.T, trail []api.Entry, clause []int, want int) {
	t.Helper()
	if got, e := learn.Levels(trail, clause); e != api.OK || got != want {
		t.Errorf("Levels(%v, %v) = %d, %d; wanted %d, 0", trail, clause, got, e, want)
	}
}

// P15.4: literals that are true and false, beside one another and beside their opposites.
func TestLevels(t *testing.T) {
	counts(t, chain(), list(-5, -4, 1), 2)
	counts(t, chain(), list(-5, 4, -3), 1)
	counts(t, chain(), list(5, 4, 3, 2, 1), 2)
	counts(t, chain(), list(1), 1)
	counts(t, chain(), list(-1), 1)
	counts(t, chain(), list(1, -1), 1)
	counts(t, chain(), list(1, -1, 3, -3, 1), 2)
}

// P15.4: level 0 counts too, and only where a literal is of it.
func TestLevelsZero(t *testing.T) {
	counts(t, ahead(), list(9), 1)
	counts(t, ahead(), list(-9), 1)
	counts(t, ahead(), list(-9, -1), 2)
	counts(t, ahead(), list(-9, 1, -5), 3)
	counts(t, ahead(), list(-1, -5), 2)
	counts(t, []api.Entry{at(1, 0), at(2, 0, 2)}, list(-1, -2), 1)
}

// P15.4: of none none, also of no trail.
func TestLevelsOfNone(t *testing.T) {
	counts(t, chain(), nil, 0)
	counts(t, chain(), []int{}, 0)
	counts(t, nil, nil, 0)
}

// P15.4: a variable without an entry, wherever it stands in the clause.
func TestLevelsOfNoEntry(t *testing.T) {
	for _, x := range list(6, -6, 9, api.MaxVar, -api.MaxVar) {
		for _, clause := range [][]int{list(x), list(x, 1), list(-1, x), list(1, 5, x, 3)} {
			if got, e := learn.Levels(chain(), clause); e != api.ErrRange || got != 0 {
				t.Errorf("Levels(%v) = %d, %d", clause, got, e)
			}
		}
	}
}

// P15.4: each level once, of a trail with many.
func TestLevelsMany(t *testing.T) {
	var trail []api.Entry
	var all []int
	for v := 1; v <= 100; v++ {
		trail = append(trail, at(2*v, v), at(-2*v-1, v, -2*v-1, -2*v))
		all = append(all, -2*v, 2*v+1)
		counts(t, trail, all, v)
		counts(t, trail, all[len(all)-2:], 1)
	}
}
