package watch_test

import (
	"slices"
	"testing"

	"depot/api"
	"depot/watch"
)

// Examples 1 and 2 of the chapter.
func TestAssumedAndTakenBack(t *testing.T) {
	w := made(t, form(4, c(-1, 2), c(-2, -3), c(3, 4)))
	ends(t, w.Assume(1), api.ErrTurn)
	runs(t, w, true)
	knows(t, w, 0)
	ends(t, w.Assume(1), api.OK)
	knows(t, w, 1, 1)
	ends(t, w.Assume(2), api.ErrTurn)
	runs(t, w, true)
	knows(t, w, 1, 1, 2, -3, 4)
	ends(t, w.Assume(3), api.ErrSet)
	ends(t, w.Assume(5), api.ErrShape)
	ends(t, w.Assume(0), api.ErrShape)
	ends(t, w.Add(c(-4, -1)), api.OK)
	knows(t, w, 1, 1, 2, -3, 4)
	ends(t, w.Assume(1), api.ErrTurn)
	runs(t, w, false)
	knows(t, w, 1, 1, 2, -3, 4)
	runs(t, w, false)
	ends(t, w.Undo(), api.OK)
	knows(t, w, 0)
	if !w.Clashes() {
		t.Error("Undo turns Clashes")
	}
	ends(t, w.Assume(1), api.ErrTurn)
	runs(t, w, true)
	knows(t, w, 0)
	ends(t, w.Undo(), api.ErrTurn)
}

// Example 3: no variables, no clauses; then the empty clause.
func TestNothing(t *testing.T) {
	w := made(t, form(0))
	runs(t, w, true)
	ends(t, w.Assume(1), api.ErrShape)
	ends(t, w.Add(nil), api.OK)
	for range 3 {
		runs(t, w, false)
		knows(t, w, 0)
		ends(t, w.Assume(1), api.ErrShape)
		ends(t, w.Undo(), api.ErrTurn)
		ends(t, w.Add(c()), api.OK)
	}
}

// Example 4: what is found belongs to the depth at which the Run ran.
func TestDepthOfWhatIsFound(t *testing.T) {
	w := made(t, form(2))
	runs(t, w, true)
	ends(t, w.Assume(1), api.OK)
	runs(t, w, true)
	ends(t, w.Add(c(2)), api.OK)
	runs(t, w, true)
	knows(t, w, 1, 1, 2)
	ends(t, w.Undo(), api.OK)
	knows(t, w, 0)
	runs(t, w, true)
	knows(t, w, 0, 2)
}

// P7.1: New of formulas that aren't formed.
func TestNewRefuses(t *testing.T) {
	wrong := []api.Formula{form(-1), form(api.MaxVar + 1), form(0, c(1)), form(2, c(1), c(3)), form(2, c(-3)), form(2, c(1, 2), c(2, 0))}
	for _, l := range far {
		wrong = append(wrong, form(api.MaxVar, c(1), c(-2, l)))
	}
	for _, f := range wrong {
		if w, e := watch.New(f); w != nil || e != api.ErrShape {
			t.Errorf("New(%v) = %v, error %d", f, w, e)
		}
	}
}

// P7.1, P7.6: a new Watch knows nothing, not even what its clauses say, isn't at rest, and has had no clash.
func TestNewKnowsNothing(t *testing.T) {
	for _, f := range []api.Formula{form(0), form(3), form(2, c(1), c(-2)), form(1, c(1), c(-1)), form(0, c()), form(api.MaxVar, c(api.MaxVar))} {
		w := made(t, f)
		knows(t, w, 0)
		if w.Clashes() {
			t.Errorf("a clash ahead of any Run: %v", f)
		}
		if f.Vars > 0 {
			ends(t, w.Assume(f.Vars), api.ErrTurn)
		}
		ends(t, w.Undo(), api.ErrTurn)
		knows(t, w, 0)
	}
}

// P7.1: the formula's clauses are the Watch's, and its variables, up to the greatest.
func TestNewTakesClauses(t *testing.T) {
	const top = api.MaxVar
	w := made(t, form(top, c(-top, 3), c(-3, 1-top), c(1)))
	runs(t, w, true)
	knows(t, w, 0, 1)
	ends(t, w.Assume(top), api.OK)
	runs(t, w, true)
	knows(t, w, 1, 1, 3, 1-top, top)
	ends(t, w.Assume(top-1), api.ErrSet)
	ends(t, w.Add(c(-top, top-1)), api.OK)
	runs(t, w, false)
	ends(t, w.Undo(), api.OK)
	runs(t, w, true)
	ends(t, w.Assume(2-top), api.OK)
	knows(t, w, 1, 1, 2-top)
}

// P7.2: what isn't sound, or has a variable above Vars, is refused, and nothing has happened: the Watch is at rest still.
func TestAddRefuses(t *testing.T) {
	w := made(t, form(3, c(-1, 2)))
	runs(t, w, true)
	wrong := [][]int{c(4), c(-4), c(1, 2, 4), c(-4, 1)}
	for _, l := range far {
		wrong = append(wrong, c(l), c(1, l), c(l, -2), c(3, l, -3))
	}
	for _, list := range wrong {
		ends(t, w.Add(list), api.ErrShape)
	}
	ends(t, w.Assume(1), api.OK)
	for _, list := range wrong {
		ends(t, w.Add(list), api.ErrShape)
	}
	runs(t, w, true)
	knows(t, w, 1, 1, 2)
	small := made(t, form(0))
	ends(t, small.Add(c(1)), api.ErrShape)
	runs(t, small, true)
}

// P7.2, P7.6: what a clause makes true is found by the next Run, not ahead of it.
func TestAddIsFoundByRun(t *testing.T) {
	w := made(t, form(3))
	ends(t, w.Add(c(1)), api.OK)
	knows(t, w, 0)
	runs(t, w, true)
	knows(t, w, 0, 1)
	ends(t, w.Add(c(-1, -2)), api.OK)
	ends(t, w.Add(c(2, 3)), api.OK)
	knows(t, w, 0, 1)
	ends(t, w.Assume(3), api.ErrTurn)
	runs(t, w, true)
	knows(t, w, 0, 1, -2, 3)
	ends(t, w.Add(c(-3, 2)), api.OK)
	if w.Clashes() {
		t.Error("Add turns Clashes")
	}
	ends(t, w.Undo(), api.ErrTurn)
	runs(t, w, false)
	knows(t, w, 0, 1, -2, 3)
}

// P7.2: a clause is meant as a set: what stands twice counts once, and one that holds a literal and its opposite says nothing.
func TestAddTwiceAndOpposite(t *testing.T) {
	w := made(t, form(3, c(-1, 2, -1, 2), c(3, -3)))
	runs(t, w, true)
	knows(t, w, 0)
	ends(t, w.Assume(1), api.OK)
	runs(t, w, true)
	knows(t, w, 1, 1, 2)
	ends(t, w.Add(c(3, -1, 3, -1, 3)), api.OK)
	ends(t, w.Add(c(-2, 2)), api.OK)
	ends(t, w.Add(c(-1, -3, 1, -2)), api.OK)
	runs(t, w, true)
	knows(t, w, 1, 1, 2, 3)
	ends(t, w.Undo(), api.OK)
	ends(t, w.Add(c(-3, -3)), api.OK)
	runs(t, w, true)
	knows(t, w, 0, -1, -3)
}

// P7.3: the refusals, in their order: no literal of the Watch ahead of the turn, and that ahead of what is known.
func TestAssumeRefuses(t *testing.T) {
	w := made(t, form(3, c(1)))
	wrong := append(c(4, -4), far...)
	for _, l := range wrong {
		ends(t, w.Assume(l), api.ErrShape)
	}
	runs(t, w, true)
	for _, l := range wrong {
		ends(t, w.Assume(l), api.ErrShape)
	}
	ends(t, w.Assume(1), api.ErrSet)
	ends(t, w.Assume(-1), api.ErrSet)
	knows(t, w, 0, 1)
	ends(t, w.Assume(-2), api.OK)
	for _, l := range c(1, -1, 2, -2, 3) {
		ends(t, w.Assume(l), api.ErrTurn)
	}
	knows(t, w, 1, 1, -2)
	runs(t, w, true)
	ends(t, w.Assume(2), api.ErrSet)
	ends(t, w.Assume(-2), api.ErrSet)
	ends(t, w.Assume(4), api.ErrShape)
	ends(t, w.Assume(3), api.OK)
	knows(t, w, 2, 1, -2, 3)
}

// P7.3: a Watch isn't at rest behind Add, Assume and Undo that were carried out; it is behind those that were refused.
func TestAtRest(t *testing.T) {
	w := made(t, form(4))
	runs(t, w, true)
	ends(t, w.Undo(), api.ErrTurn)
	ends(t, w.Add(c(5)), api.ErrShape)
	ends(t, w.Assume(1), api.OK)
	runs(t, w, true)
	ends(t, w.Assume(-1), api.ErrSet)
	ends(t, w.Assume(2), api.OK)
	ends(t, w.Assume(3), api.ErrTurn)
	runs(t, w, true)
	ends(t, w.Add(c(1)), api.OK)
	ends(t, w.Assume(3), api.ErrTurn)
	runs(t, w, true)
	ends(t, w.Undo(), api.OK)
	ends(t, w.Assume(3), api.ErrTurn)
	runs(t, w, true)
	ends(t, w.Assume(3), api.OK)
	knows(t, w, 2, 1, 3)
}

// P7.3: behind a Run that answered false nothing can be assumed, till an Undo and a Run that answers true; at the depth 0 that never comes.
func TestNothingBehindAClash(t *testing.T) {
	w := made(t, form(4, c(-1, 2), c(-1, -2)))
	runs(t, w, true)
	ends(t, w.Assume(1), api.OK)
	runs(t, w, false)
	knows(t, w, 1, 1)
	ends(t, w.Assume(3), api.ErrTurn)
	ends(t, w.Add(c(3, 4)), api.OK)
	runs(t, w, false)
	ends(t, w.Assume(3), api.ErrTurn)
	ends(t, w.Undo(), api.OK)
	ends(t, w.Assume(3), api.ErrTurn)
	runs(t, w, true)
	ends(t, w.Assume(3), api.OK)
	ends(t, w.Add(c(-4)), api.OK)
	ends(t, w.Add(c(4)), api.OK)
	runs(t, w, false)
	ends(t, w.Undo(), api.OK)
	for range 3 {
		runs(t, w, false)
		knows(t, w, 0)
		ends(t, w.Assume(1), api.ErrTurn)
		ends(t, w.Undo(), api.ErrTurn)
		ends(t, w.Add(c(1, 2)), api.OK)
	}
}

// P7.4: where there is a clash what is known stays as it was, though much was found ahead of the clash.
func TestClashKeepsWhatIsKnown(t *testing.T) {
	w := made(t, form(6, c(-1, 2), c(-2, 3), c(-3, 4), c(-4, 5), c(-5, -3, 6), c(-6, -2)))
	runs(t, w, true)
	ends(t, w.Assume(1), api.OK)
	runs(t, w, false)
	knows(t, w, 1, 1)
	runs(t, w, false)
	ends(t, w.Undo(), api.OK)
	runs(t, w, true)
	knows(t, w, 0)
	ends(t, w.Assume(4), api.OK)
	runs(t, w, true)
	knows(t, w, 1, 4, 5)
	ends(t, w.Assume(3), api.OK)
	runs(t, w, true)
	knows(t, w, 2, -1, -2, 3, 4, 5, 6)
}

// P7.4: one Run behind another one answers the same and changes nothing.
func TestRunAgain(t *testing.T) {
	w := made(t, form(3, c(-1, 2)))
	for range 3 {
		runs(t, w, true)
		knows(t, w, 0)
	}
	ends(t, w.Assume(1), api.OK)
	for range 3 {
		runs(t, w, true)
		knows(t, w, 1, 1, 2)
	}
	ends(t, w.Add(c(-2, -1)), api.OK)
	for range 3 {
		runs(t, w, false)
		knows(t, w, 1, 1, 2)
	}
}

// P7.5: Undo at rest and not, several times with no Run between, and behind a Run that answered false.
func TestUndo(t *testing.T) {
	w := made(t, form(8, c(-1, 2), c(-3, 4), c(-5, 6), c(-5, -6)))
	ends(t, w.Undo(), api.ErrTurn)
	runs(t, w, true)
	ends(t, w.Undo(), api.ErrTurn)
	for _, l := range c(1, 3, 7) {
		ends(t, w.Assume(l), api.OK)
		runs(t, w, true)
	}
	knows(t, w, 3, 1, 2, 3, 4, 7)
	ends(t, w.Undo(), api.OK)
	knows(t, w, 2, 1, 2, 3, 4)
	ends(t, w.Undo(), api.OK)
	knows(t, w, 1, 1, 2)
	runs(t, w, true)
	ends(t, w.Assume(5), api.OK)
	ends(t, w.Undo(), api.OK)
	knows(t, w, 1, 1, 2)
	runs(t, w, true)
	knows(t, w, 1, 1, 2)
	ends(t, w.Assume(5), api.OK)
	runs(t, w, false)
	ends(t, w.Undo(), api.OK)
	ends(t, w.Undo(), api.OK)
	knows(t, w, 0)
	ends(t, w.Undo(), api.ErrTurn)
	knows(t, w, 0)
	runs(t, w, true)
	knows(t, w, 0)
}

// P7.6: Add, Assume and Undo don't turn what Clashes answers, nor do calls that are refused.
func TestClashesStays(t *testing.T) {
	w := made(t, form(4, c(-1, 2), c(-1, -2)))
	stays := func(want bool) {
		t.Helper()
		if w.Clashes() != want {
			t.Errorf("Clashes = %v", !want)
		}
	}
	stays(false)
	ends(t, w.Add(c(3, -3)), api.OK)
	stays(false)
	runs(t, w, true)
	ends(t, w.Assume(4), api.OK)
	stays(false)
	runs(t, w, true)
	ends(t, w.Assume(1), api.OK)
	stays(false)
	runs(t, w, false)
	ends(t, w.Add(c(3)), api.OK)
	stays(true)
	ends(t, w.Assume(3), api.ErrTurn)
	ends(t, w.Assume(0), api.ErrShape)
	stays(true)
	ends(t, w.Undo(), api.OK)
	stays(true)
	ends(t, w.Undo(), api.OK)
	stays(true)
	ends(t, w.Undo(), api.ErrTurn)
	stays(true)
	runs(t, w, true)
	knows(t, w, 0, 3)
}

// P7.6: Lits tells by Index, in whatever order it became known.
func TestLitsByIndex(t *testing.T) {
	w := made(t, form(6, c(-5, 2), c(-2, -6), c(6, -1)))
	runs(t, w, true)
	ends(t, w.Assume(5), api.OK)
	runs(t, w, true)
	knows(t, w, 1, -1, 2, 5, -6)
	ends(t, w.Assume(-4), api.OK)
	knows(t, w, 2, -1, 2, -4, 5, -6)
	runs(t, w, true)
	ends(t, w.Assume(3), api.OK)
	if got := w.Lits(); !slices.Equal(got, c(-1, 2, 3, -4, 5, -6)) {
		t.Errorf("Lits = %v", got)
	}
}
