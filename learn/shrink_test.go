package learn_test

import (
	"slices"
	"testing"

	"depot/api"
	"depot/learn"
)

// shrinks: Shrink answers this clause.
func shrinks(t *testing.T, trail []api.Entry, clause, want []int) {
	t.Helper()
	if got, e := learn.Shrink(trail, clause); e != api.OK || !slices.Equal(got, want) {
		t.Errorf("Shrink(%v, %v) = %v, %d; wanted %v, 0", trail, clause, got, e, want)
	}
}

// P15.3: the chapter's examples.
func TestShrinkExamples(t *testing.T) {
	shrinks(t, chain(), list(-5, -4, -3), list(-5, -4, -3))
	shrinks(t, chain(), list(-3, -2, -1), list(-3, -1))
	shrinks(t, chain(), list(-2, -1), list(-2, -1))
	shrinks(t, chain(), list(-5, -4), list(-5, -4))
	shrinks(t, chain(), nil, nil)
	shrinks(t, nil, nil, nil)
}

// P15.3: literals of level 0 are left out, with a reason and without one.
func TestShrinkLevelZero(t *testing.T) {
	trail := []api.Entry{at(9, 0), at(-8, 0, -8, -9), at(7, 0, 7), at(1, 1), at(2, 2)}
	shrinks(t, trail, list(-2, -9, -1), list(-2, -1))
	shrinks(t, trail, list(-2, 8, -1, -7, -9), list(-2, -1))
	shrinks(t, trail, list(-1, -9), list(-1))
	// But the first stays.
	shrinks(t, trail, list(-9, -2, 8), list(-9, -2))
	shrinks(t, trail, list(8), list(8))
	shrinks(t, trail, list(-7, -9, 8, -7), list(-7))
}

// P15.3: a literal is covered, where each other literal of its reason stands in the clause or is of level 0.
func TestShrinkCovered(t *testing.T) {
	trail := []api.Entry{at(9, 0), at(1, 1), at(2, 2), at(3, 2, 3, -2, -1), at(4, 2, -9, 4, -1), at(5, 3), at(6, 3, 6)}
	shrinks(t, trail, list(-5, -3, -2, -1), list(-5, -2, -1))
	shrinks(t, trail, list(-5, -1, -2, -3), list(-5, -1, -2))
	shrinks(t, trail, list(-5, -4, -1), list(-5, -1))
	// One of the two is lacking.
	shrinks(t, trail, list(-5, -3, -2), list(-5, -3, -2))
	shrinks(t, trail, list(-5, -3, -1), list(-5, -3, -1))
	shrinks(t, trail, list(-5, -4), list(-5, -4))
	// A reason of its literal alone lacks nothing.
	shrinks(t, trail, list(-5, -6), list(-5))
	shrinks(t, trail, list(-1, -6), list(-1))
	// The first one's standing there counts, and so does that of one that is left out itself.
	shrinks(t, trail, list(-1, -4), list(-1))
	shrinks(t, trail, list(-1, -2, -3, -4), list(-1, -2))
	both := []api.Entry{at(1, 1), at(2, 1, 2, -1), at(3, 1, 3, -2), at(4, 2)}
	shrinks(t, both, list(-4, -3, -2, -1), list(-4, -1))
	shrinks(t, both, list(-3, -2, -1), list(-3, -1))
}

// P15.3: covered through literals that don't stand in the clause, however far it goes.
func TestShrinkCoveredThroughOthers(t *testing.T) {
	shrinks(t, chain(), list(-3, -5, -1), list(-3, -1))
	shrinks(t, chain(), list(-1, -5, -3), list(-1, -3))
	shrinks(t, chain(), list(-1, -4, -3), list(-1, -3))
	shrinks(t, chain(), list(-1, -4, -5), list(-1, -4))
	// Two ways lead down from 7, and they meet in 2.
	trail := []api.Entry{at(9, 0), at(1, 1), at(2, 1, 2, -1), at(3, 1, 3, -2), at(4, 1, 4, -2, -9), at(5, 2), at(6, 2, 6, -5), at(7, 2, 7, -6, -3, -4)}
	shrinks(t, trail, list(-5, -7, -1), list(-5, -1))
	shrinks(t, trail, list(-5, -7, -2), list(-5, -2))
	shrinks(t, trail, list(-5, -7, -3), list(-5, -7, -3))
	shrinks(t, trail, list(-5, -7, -3, -4), list(-5, -3, -4))
	shrinks(t, trail, list(-6, -7, -3, -4), list(-6, -3, -4))
	shrinks(t, trail, list(-7, -6, -5, -4, -3, -2, -1), list(-7, -5, -1))
}

// P15.3: of a decision nothing is covered, and nothing by what stands behind it.
func TestShrinkNotCovered(t *testing.T) {
	shrinks(t, chain(), list(-3, -1), list(-3, -1))
	shrinks(t, chain(), list(-1, -3), list(-1, -3))
	shrinks(t, chain(), list(-5, -3), list(-5, -3))
	shrinks(t, chain(), list(-5, -1, -2), list(-5, -1))
	shrinks(t, chain(), list(-5, -2), list(-5, -2))
	shrinks(t, chain(), list(-4, -5), list(-4))
	// 2 isn't implied by 4, though 4's reason holds it.
	shrinks(t, chain(), list(-3, -4, -2), list(-3, -2))
	shrinks(t, chain(), list(-4, -2, -3), list(-4, -2, -3))
}

// P15.3: the first literal stays, whatever it is: of level 0, covered, or needed.
func TestShrinkFirstStays(t *testing.T) {
	shrinks(t, chain(), list(-2, -1, -3), list(-2, -1, -3))
	shrinks(t, chain(), list(-5, -4, -3, -2, -1), list(-5, -3, -1))
	shrinks(t, ahead(), list(-9, -2, -1, -9), list(-9, -1))
	for _, x := range ahead() {
		shrinks(t, ahead(), list(-x.Lit), list(-x.Lit))
	}
}

// P15.3: each once, where it stands first; the others in their order.
func TestShrinkEachOnce(t *testing.T) {
	shrinks(t, chain(), list(-3, -1, -3, -1), list(-3, -1))
	shrinks(t, chain(), list(-1, -3, -3, -1, -1), list(-1, -3))
	shrinks(t, chain(), list(-2, -2, -1, -2, -1), list(-2, -1))
	shrinks(t, chain(), list(-3, -2, -2, -1, -2, -1), list(-3, -1))
	shrinks(t, ahead(), list(-9, -9), list(-9))
	trail := []api.Entry{at(-7, 1), at(3, 2), at(-5, 3), at(1, 4)}
	shrinks(t, trail, list(5, -1, 7, 5, -3, 7), list(5, -1, 7, -3))
	shrinks(t, trail, list(7, -3, -1, 5, 7), list(7, -3, -1, 5))
}
