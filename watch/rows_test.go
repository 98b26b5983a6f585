package watch_test

import (
	"slices"
	"testing"

	"depot/api"
)

// P7.1 to P7.6: all short rows of calls, on a new Watch and on one that is deep already, against the chapter's words.
func TestAllShortRows(t *testing.T) {
	calls := []call{
		{run, nil}, {undo, nil},
		{assume, c(1)}, {assume, c(-2)}, {assume, c(4)},
		{add, c(-1, -3)}, {add, c(2, 3)}, {add, c(3)}, {add, c(-1)},
	}
	starts := []struct {
		f     api.Formula
		ahead []call
	}{
		{form(3), []call{{run, nil}}},
		{form(3, c(-1, 2), c(1, -3, 1)), nil},
		{form(3, c(-2, 1), c(2, -2)), []call{{run, nil}, {assume, c(3)}, {run, nil}, {assume, c(-1)}, {run, nil}}},
		{form(3), []call{{run, nil}, {assume, c(1)}, {run, nil}, {assume, c(-2)}, {run, nil}}},
	}
	const long = 5
	rows := 1
	for range long {
		rows *= len(calls)
	}
	for _, start := range starts {
		for row := range rows {
			w, p := pairOf(t, start.f)
			for _, a := range start.ahead {
				a.both(t, w, p)
			}
			for k, rest := 0, row; k < long; k, rest = k+1, rest/len(calls) {
				calls[rest%len(calls)].both(t, w, p)
			}
			call{run, nil}.both(t, w, p)
		}
	}
}

// P7.1 to P7.6: long rows of calls, against the chapter's words.
func TestLongRows(t *testing.T) {
	clashes, deep, behind := 0, 0, 0
	for seed := range uint64(4000) {
		draw := drawn(seed)
		vars := 2 + draw.Intn(12)
		w, p := pairOf(t, draw.formula(vars, vars))
		for range 120 {
			a := draw.call(vars)
			clashed := w.Clashes()
			answer := a.both(t, w, p)
			if a.kind != run {
				continue
			}
			if answer == 0 && w.Depth() > 0 {
				clashes++
			}
			if answer == 1 && clashed {
				behind++
			}
			if w.Depth() > 2 {
				deep++
			}
		}
	}
	if clashes < 1000 || deep < 1000 || behind < 500 {
		t.Errorf("only %d clashes, %d Runs behind one, %d deep ones", clashes, behind, deep)
	}
}

// deepFirst assumes what it can, with a Run behind each, until nothing is open or there is a clash.
func deepFirst(t *testing.T, draw *drawer, doBoth func(call) int, vars int) {
	t.Helper()
	for range 2 * vars {
		doBoth(call{assume, c(draw.literal(vars))})
		if doBoth(call{run, nil}) == 0 {
			return
		}
	}
}

// P7.2, P7.4, P7.5: clauses that come in while many assumptions stand, and are unit or false further up, and then back, step by step, with and without Runs between.
func TestLateClauses(t *testing.T) {
	for seed := range uint64(800) {
		draw := drawn(seed + 5000)
		vars := 4 + draw.Intn(10)
		w, p := pairOf(t, draw.formula(vars, vars/2))
		doBoth := func(a call) int { t.Helper(); return a.both(t, w, p) }
		if doBoth(call{run, nil}) == 0 {
			continue
		}
		for range 4 {
			deepFirst(t, draw, doBoth, vars)
			for range 1 + draw.Intn(4) {
				doBoth(call{add, draw.clause(vars)})
				if draw.Intn(2) == 0 {
					doBoth(call{run, nil})
				}
			}
			for back := draw.Intn(w.Depth() + 1); back > 0; back-- {
				doBoth(call{undo, nil})
				if draw.Intn(3) > 0 {
					doBoth(call{run, nil})
				}
			}
			doBoth(call{run, nil})
		}
	}
}

// P7.2, P7.5: one clause that comes in at the depth 4, and what it says at each one on the way back.
func TestOneLateClause(t *testing.T) {
	no := c(0)
	cases := []struct {
		clause []int
		known  [][]int // behind a Run at the depths 4, 3, .., 0; no: a clash
	}{
		{c(-1, -3, 5), [][]int{c(1, 2, 3, 4, 5), c(1, 2, 3, 5), c(1, 2), c(1), c()}},
		{c(5), [][]int{c(1, 2, 3, 4, 5), c(1, 2, 3, 5), c(1, 2, 5), c(1, 5), c(5)}},
		{c(-1, 3), [][]int{c(1, 2, 3, 4), c(1, 2, 3), c(1, 2, 3), c(1, 3), c()}},
		{c(-2, -1), [][]int{no, no, no, c(1, -2), c()}},
		{c(-1), [][]int{no, no, no, no, c(-1)}},
		{c(-4, -3, -2, -1), [][]int{no, c(1, 2, 3, -4), c(1, 2), c(1), c()}},
		{c(-2, 4), [][]int{c(1, 2, 3, 4), c(1, 2, 3, 4), c(1, 2, 4), c(1), c()}},
		{c(2), [][]int{c(1, 2, 3, 4), c(1, 2, 3), c(1, 2), c(1, 2), c(2)}},
		{c(-4, 2), [][]int{c(1, 2, 3, 4), c(1, 2, 3), c(1, 2), c(1), c()}},
		{c(), [][]int{no, no, no, no, no}},
	}
	for _, each := range cases {
		for skip := range 1 << 4 {
			w := made(t, form(5))
			runs(t, w, true)
			for l := 1; l <= 4; l++ {
				ends(t, w.Assume(l), api.OK)
				runs(t, w, true)
			}
			ends(t, w.Add(each.clause), api.OK)
			for up, want := range each.known {
				if up < 4 && skip>>up&1 == 1 {
					ends(t, w.Undo(), api.OK)
					continue
				}
				fine := !slices.Equal(want, no)
				runs(t, w, fine)
				if fine {
					knows(t, w, 4-up, want...)
				}
				if up < 4 {
					ends(t, w.Undo(), api.OK)
				}
			}
		}
	}
}

// P7.5: behind an Undo a clause that came in late goes on being told, also when it is reached by another way.
func TestLateClauseGoesOn(t *testing.T) {
	w := made(t, form(6, c(-5, 6)))
	runs(t, w, true)
	for _, l := range c(1, 2, 3) {
		ends(t, w.Assume(l), api.OK)
		runs(t, w, true)
	}
	ends(t, w.Add(c(-1, -2, 5)), api.OK)
	ends(t, w.Add(c(-6, -3, 4)), api.OK)
	runs(t, w, true)
	knows(t, w, 3, 1, 2, 3, 4, 5, 6)
	ends(t, w.Undo(), api.OK)
	knows(t, w, 2, 1, 2)
	ends(t, w.Undo(), api.OK)
	runs(t, w, true)
	knows(t, w, 1, 1)
	ends(t, w.Assume(-5), api.OK)
	runs(t, w, true)
	knows(t, w, 2, 1, -2, -5)
	ends(t, w.Undo(), api.OK)
	runs(t, w, true)
	ends(t, w.Assume(2), api.OK)
	runs(t, w, true)
	knows(t, w, 2, 1, 2, 5, 6)
	ends(t, w.Assume(-4), api.OK)
	runs(t, w, true)
	knows(t, w, 3, 1, 2, -3, -4, 5, 6)
}
