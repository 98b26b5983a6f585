package learn_test

import (
	"math"
	"slices"
	"testing"

	"depot/api"
	"depot/learn"
)

// at: an entry with its level, and its reason, if there is one.
func at(lit, level int, reason ...int) api.Entry {
	return api.Entry{Lit: lit, Level: level, Reason: reason}
}

func list(numbers ...int) []int { return numbers }

// chain: the trail of the chapter's examples.
func chain() []api.Entry {
	return []api.Entry{at(1, 1), at(2, 1, 2, -1), at(3, 2), at(4, 2, 4, -3, -2), at(5, 2, 5, -4)}
}

// ahead: the same behind 9 on level 0.
func ahead() []api.Entry { return append([]api.Entry{at(9, 0)}, chain()...) }

// badTrails: each isn't well shaped for a reason of its own.
func badTrails() [][]api.Entry {
	return [][]api.Entry{
		{at(0, 1)}, {at(1, 2)}, {at(1, -1)}, {at(1, 1), at(-1, 2)}, {at(1, 1), at(2, 1)}, {at(1, 1), at(2, 2, 2, -1)},
		{at(1, 1), at(2, 1, -1)}, {at(1, 1), at(2, 1, 2, 0, -1)}, {at(1, 1), at(2, 1, 2, -3)}, {at(1, 1), at(2, 3)},
	}
}

// noLiterals: what is no literal, at the edges and far out.
func noLiterals() []int {
	return list(0, api.MaxVar+1, -api.MaxVar-1, math.MaxInt, math.MinInt, math.MinInt+1)
}

// learns: Learn answers this clause and this level.
func learns(t *testing.T, trail []api.Entry, conflict, want []int, back int) {
	t.Helper()
	got, level, e := learn.Learn(trail, conflict)
	if e != api.OK || level != back || !slices.Equal(got, want) {
		t.Errorf("Learn(%v, %v) = %v, %d, %d; wanted %v, %d, 0", trail, conflict, got, level, e, want, back)
	}
}

// refuses: all three calls answer that error and nothing besides.
func refuses(t *testing.T, trail []api.Entry, clause []int, want api.Errno) {
	t.Helper()
	if got, back, e := learn.Learn(trail, clause); e != want || back != 0 || len(got) != 0 {
		t.Errorf("Learn(%v, %v) = %v, %d, %d; wanted error %d", trail, clause, got, back, e, want)
	}
	if got, e := learn.Shrink(trail, clause); e != want || len(got) != 0 {
		t.Errorf("Shrink(%v, %v) = %v, %d; wanted error %d", trail, clause, got, e, want)
	}
	if got, e := learn.Levels(trail, clause); e != want || got != 0 {
		t.Errorf("Levels(%v, %v) = %d, %d; wanted error %d", trail, clause, got, e, want)
	}
}

// P15.2 to P15.4: a trail that isn't well shaped, whatever the clause is.
func TestBadTrails(t *testing.T) {
	for _, trail := range badTrails() {
		for _, clause := range [][]int{nil, list(-1), list(1), list(7), list(0)} {
			refuses(t, trail, clause, api.ErrShape)
		}
	}
}

// P15.2 to P15.4: a clause that isn't sound, under any trail; ErrShape goes ahead of ErrRange.
func TestUnsoundClauses(t *testing.T) {
	for _, trail := range [][]api.Entry{nil, chain(), ahead(), {at(1, 0)}} {
		for _, x := range noLiterals() {
			for _, clause := range [][]int{list(x), list(-1, x), list(x, -1), list(7, x), list(x, x, 7)} {
				refuses(t, trail, clause, api.ErrShape)
			}
		}
	}
}

// P15.2 and P15.3: a clause that isn't false: a literal that is true, and one whose variable has no entry, wherever it stands.
func TestClausesThatAreNotFalse(t *testing.T) {
	for _, trail := range [][]api.Entry{chain(), ahead()} {
		for _, x := range list(1, 2, 3, 4, 5, 6, -6, api.MaxVar, -api.MaxVar) {
			for _, clause := range [][]int{list(x), list(-1, x), list(x, -5), list(-5, -4, x, -3), list(-3, 3, x)} {
				if got, back, e := learn.Learn(trail, clause); e != api.ErrRange || back != 0 || len(got) != 0 {
					t.Errorf("Learn(%v) = %v, %d, %d", clause, got, back, e)
				}
				if got, e := learn.Shrink(trail, clause); e != api.ErrRange || len(got) != 0 {
					t.Errorf("Shrink(%v) = %v, %d", clause, got, e)
				}
			}
		}
	}
	refuses(t, nil, list(1), api.ErrRange)
	refuses(t, nil, list(-1), api.ErrRange)
}

// P15.2: none of a conflict, and one of level 0 alone: the empty clause and -1.
func TestNothingLeftToGoBackTo(t *testing.T) {
	zero := []api.Entry{at(9, 0), at(-4, 0, -9, -4), at(2, 0, 2, -9, 4)}
	deep := append(slices.Clone(zero), at(1, 1), at(3, 2), at(5, 2, 5, -3))
	for _, trail := range [][]api.Entry{zero, deep} {
		for _, conflict := range [][]int{nil, {}, list(-9), list(4), list(-2), list(-2, 4, -9), list(-2, -2)} {
			learns(t, trail, conflict, nil, -1)
		}
	}
	learns(t, nil, nil, nil, -1)
	learns(t, chain(), nil, nil, -1)
}

// P15.2: one literal of the greatest level stays as it is, whatever its reason.
func TestOneOfTheGreatestLevel(t *testing.T) {
	learns(t, chain(), list(-2), list(-2), 0)
	learns(t, chain(), list(-1), list(-1), 0)
	learns(t, chain(), list(-5), list(-5), 0)
	learns(t, chain(), list(-3), list(-3), 0)
	learns(t, chain(), list(-1, -5), list(-5, -1), 1)
	learns(t, chain(), list(-2, -5, -1), list(-5, -1, -2), 1)
	// A literal that stands twice counts once.
	learns(t, chain(), list(-5, -5), list(-5), 0)
	learns(t, chain(), list(-5, -1, -5, -1), list(-5, -1), 1)
	// The greatest level of the conflict isn't always the trail's.
	learns(t, chain(), list(-2, -1), list(-1), 0)
}

// P15.2: of several the one with the greatest place goes out, wherever it stands in the conflict and whatever its number.
func TestResolvedByPlace(t *testing.T) {
	learns(t, chain(), list(-5, -4, -1), list(-4, -1), 1)
	learns(t, chain(), list(-1, -4, -5), list(-4, -1), 1)
	learns(t, chain(), list(-5, -3), list(-3, -2), 1)
	learns(t, chain(), list(-3, -5), list(-3, -2), 1)
	learns(t, chain(), list(-3, -4), list(-3, -2), 1)
	// The numbers fall where the places rise.
	falling := []api.Entry{at(-9, 1), at(8, 2), at(-7, 2, -7, 9), at(6, 2, 6, 7, -8), at(-5, 2, 7, -5), at(4, 2, 4, 5, -6)}
	learns(t, falling, list(-4, 5), list(-8, 9), 1)
	learns(t, falling, list(-4), list(-4), 0)
	learns(t, falling, list(5, -6), list(-8, 9), 1)
}

// P15.2: literals of level 0 are taken out, those of the conflict and those that reasons put in.
func TestLevelZeroIsLeftOut(t *testing.T) {
	learns(t, ahead(), list(-9), nil, -1)
	learns(t, ahead(), list(-5, -4, -9), list(-4), 0)
	learns(t, ahead(), list(-9, -1), list(-1), 0)
	trail := []api.Entry{at(9, 0), at(-8, 0, -8, -9), at(1, 1), at(2, 2), at(3, 2, -9, 3, 8, -2), at(4, 2, 4, -2, 8)}
	learns(t, trail, list(-4, -3), list(-2), 0)
	learns(t, trail, list(-4, -3, -1), list(-2, -1), 1)
	learns(t, trail, list(-9, -4, 8, -3, -1), list(-2, -1), 1)
}

// P15.2: the one literal of the greatest level first, the others by Index; back is the greatest level of them.
func TestOrderOfTheClause(t *testing.T) {
	trail := []api.Entry{at(-3, 1), at(8, 2), at(1, 3), at(-2, 3, -2, -1), at(7, 4), at(-5, 4, -5, -7, -8), at(6, 5), at(-4, 5, -4, -6, 5, 3)}
	learns(t, trail, list(4, 5, -1, 2, -8, 3), list(4, -1, 2, 3, 5, -8), 4)
	learns(t, trail, list(-6, 3, -8, 4), list(-6, 3, 5, -8), 4)
	learns(t, trail, list(-6, 3, -8), list(-6, 3, -8), 2)
	learns(t, trail, list(4, 3), list(4, 3), 1)
	learns(t, trail, list(-7, 5), list(-7, -8), 2)
	learns(t, trail, list(2, -1, 3), list(-1, 3), 1)
	learns(t, trail, list(2, -1), list(-1), 0)
}

// P15.2: a reason of its literal alone puts nothing in, also on a level above 0; literals that stand twice in a reason count once.
func TestReasonsOfOneLiteral(t *testing.T) {
	trail := []api.Entry{at(1, 1), at(2, 1, 2), at(3, 2), at(4, 2, 4, 4), at(5, 2, -3, 5, -3, 5, -2)}
	learns(t, trail, list(-4, -3), list(-3), 0)
	learns(t, trail, list(-4, -5), list(-3, -2), 1)
	learns(t, trail, list(-5, -4, -3), list(-3, -2), 1)
	learns(t, trail, list(-2, -1), list(-1), 0)
}

// P15.2: the greatest variable.
func TestGreatestVariable(t *testing.T) {
	const m = api.MaxVar
	trail := []api.Entry{at(-m, 1), at(m-1, 1, m-1, m), at(2, 2), at(1, 2, 1, -2, 1-m)}
	if !learn.Formed(trail) {
		t.Error("it is well shaped")
	}
	learns(t, trail, list(-1, -2, m), list(-2, 1-m, m), 1)
	learns(t, trail, list(m, 1-m), list(m), 0)
}
